/- What changelingref02.one and PutText answer. -/
import Derived.Test.YtknldabnkaecdaaByF
namespace Go.Proofs.Ytknldabnkaecdaa.byt
open Go.RowKit

/-- A byte as a text. -/
theorem one_string (w : World) (b : Nat) : (convert 64 9 (.slice (some ⟨w.heap.size, 0, none⟩) 1 1)).run Try.prog (w.alloc (.cells #[.int .u8 (b : Int)] 5)) = .ok (.string (txt [UInt8.ofNat b])) (w.alloc (.cells #[.int .u8 (b : Int)] 5)) := by
  have h := run_convert_bytes_arg (P := Try.prog) (w.alloc (.cells #[.int .u8 (b : Int)] 5)) 64 5 Try.underlying64 Try.underlying5 w.heap.size 0 1 1 [(b : Int)] rfl (fun i hi => ?_) 9 Try.underlying9
  · rw [h]
    have e : strOfNums [(b : Int)] = txt [UInt8.ofNat b] := by simp [strOfNums, txt]
    rw [e]
  · obtain rfl : i = 0 := by omega
    have := cell_one_new w (.int .u8 (b : Int)) 5 0 _ rfl
    exact this
def OneRel (n : Int) (w wr : World) (v3 v4 : Value) (g : Nat) : Prop :=
  ∃ (done : List UInt8) (U : Nat), v3 = .int .u64 U ∧ v4 = .string (txt done) ∧ done ++ sev U = sev (tf n) ∧ U < 18446744073709551616 ∧ U ≤ g ∧ Below w.heap.size w wr

theorem one_string' (w : World) (U : Nat) : (convert 64 9 (.slice (some ⟨w.heap.size, 0, none⟩) 1 1)).run Try.prog (w.alloc (.cells #[.int .u8 ((U : Int) % 128 + 128)] 5)) = .ok (.string (txt [UInt8.ofNat (U % 128 + 128)])) (w.alloc (.cells #[.int .u8 ((U : Int) % 128 + 128)] 5)) := by
  have := one_string w (U % 128 + 128)
  rwa [show ((U % 128 + 128 : Nat) : Int) = (U : Int) % 128 + 128 by omega] at this
theorem one_room {n : Int} {done : List UInt8} {U : Nat} (hlt : tf n < 18446744073709551616) (hd : done ++ sev U = sev (tf n)) : (txt done).size ≤ 10 := by
  have h1 := congrArg List.length hd
  have h2 := sev_ten hlt
  rw [List.length_append] at h1
  rw [txt_size]
  omega
theorem one_last {n : Int} {done : List UInt8} {U : Nat} (hs : U < 128) (hd : done ++ sev U = sev (tf n)) : txt done ++ txt [UInt8.ofNat U] = txt (sev (tf n)) := by
  rw [txt_append, ← hd, sev_small hs]
theorem one_on {n : Int} {done : List UInt8} {U : Nat} {w wr : World} {o : Obj} (hs : ¬ U < 128) (hU : U < 18446744073709551616) (hd : done ++ sev U = sev (tf n)) (hb : Below w.heap.size w wr) :
    OneRel n w (wr.alloc o) (.int .u64 ((U : Int) / 128)) (.string (txt done ++ txt [UInt8.ofNat (U % 128 + 128)])) (U / 128) := by
  rw [sev_big hs] at hd
  exact ⟨done ++ [UInt8.ofNat (U % 128 + 128)], U / 128, by rw [Int.natCast_ediv]; rfl, by rw [txt_append], by rw [← hd, List.append_assoc]; rfl, by omega, Nat.le_refl _, hb.alloc hb.size _⟩

set_option maxHeartbeats 800000 in
set_option maxRecDepth 1000000 in
theorem one_any (n : Int) (w : World) (hn : fits n) : Calls Try.prog 35 #[.int .i64 n] w (OnePost n w) := by
  obtain ⟨h1, h2⟩ := hn
  have hlt := tf_lt h1 h2
  by_cases h : n < 0
  · have HT := Lib.hid (tf_neg h)
    go_enter Try.func35, Try.ntmps35
    go_wp2
    go_loopg [3, 4] (tf n) (fun g v3 v4 wr => OneRel n w wr v3 v4 g)
    case atStart => exact ⟨[], tf n, by rw [HT.out]; exact congrArg _ (by omega), rfl, rfl, hlt, Nat.le_refl _, Below.refl _ _⟩
    case round =>
      obtain ⟨done, U, rfl, rfl, hd, hU, hg, hb⟩ := hrel
      have hz1 := one_room hlt hd
      have hz2 : (txt [UInt8.ofNat U]).size ≤ 1 := Nat.le_refl _
      obtain ⟨c, ec⟩ : ∃ c, UInt8.ofNat (U % 128 + 128) = c := ⟨_, rfl⟩
      have hz3 : (txt [c]).size ≤ 1 := Nat.le_refl _
      have EC := Lib.hid ec; clear ec
      by_cases hs : U < 128
      · have hs' : (U : Int) < 128 := by omega
        have HD := Lib.hid (one_last hs hd); have HB := Lib.hid hb
        clear hd hb
        have hcv := one_string wr U
        go_wp2
        go_ret
        exact ⟨by rw [← HD.out]; rfl, HB.out.alloc HB.out.size _⟩
      · have hs' : (128 : Int) ≤ (U : Int) := by omega
        have HR := Lib.hid (one_on (o := .cells #[.int .u8 ((U : Int) % 128 + 128)] 5) hs hU hd hb)
        clear hd hb
        have hcv := one_string' wr U
        rw [EC.out] at HR hcv
        go_wp2
        go_roundg (U / 128)
        case measure => omega
        case rel => exact HR.out
  · have HT := Lib.hid (tf_pos h)
    go_enter Try.func35, Try.ntmps35
    go_wp2
    go_loopg [3, 4] (tf n) (fun g v3 v4 wr => OneRel n w wr v3 v4 g)
    case atStart => exact ⟨[], tf n, by rw [HT.out], rfl, rfl, hlt, Nat.le_refl _, Below.refl _ _⟩
    case round =>
      obtain ⟨done, U, rfl, rfl, hd, hU, hg, hb⟩ := hrel
      have hz1 := one_room hlt hd
      have hz2 : (txt [UInt8.ofNat U]).size ≤ 1 := Nat.le_refl _
      obtain ⟨c, ec⟩ : ∃ c, UInt8.ofNat (U % 128 + 128) = c := ⟨_, rfl⟩
      have hz3 : (txt [c]).size ≤ 1 := Nat.le_refl _
      have EC := Lib.hid ec; clear ec
      by_cases hs : U < 128
      · have hs' : (U : Int) < 128 := by omega
        have HD := Lib.hid (one_last hs hd); have HB := Lib.hid hb
        clear hd hb
        have hcv := one_string wr U
        go_wp2
        go_ret
        exact ⟨by rw [← HD.out]; rfl, HB.out.alloc HB.out.size _⟩
      · have hs' : (128 : Int) ≤ (U : Int) := by omega
        have HR := Lib.hid (one_on (o := .cells #[.int .u8 ((U : Int) % 128 + 128)] 5) hs hU hd hb)
        clear hd hb
        have hcv := one_string' wr U
        rw [EC.out] at HR hcv
        go_wp2
        go_roundg (U / 128)
        case measure => omega
        case rel => exact HR.out
end Go.Proofs.Ytknldabnkaecdaa.byt

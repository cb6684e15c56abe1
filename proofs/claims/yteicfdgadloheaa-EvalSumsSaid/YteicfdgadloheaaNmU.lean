/- Plain facts on UTF-8: a rune's bytes are read as that rune; a rune that is read, and is not U+FFFD, has these bytes. No program's run in this file. -/
import Derived.Lib.DecodeN
import Derived.Test.YteicfdgadloheaaNmP
namespace Go.Proofs.Yteicfdgadloheaa.nam
open Go.Lib (decodeN decode_at)

/-- A code point that UTF-8 can bear. -/
def okR (r : Nat) : Prop := r < 55296 ∨ (57344 ≤ r ∧ r ≤ 1114111)
/-- A rune's bytes. -/
def enc (r : Nat) : List UInt8 :=
  if r < 128 then [UInt8.ofNat r]
  else if r < 2048 then [UInt8.ofNat (192 + r / 64), UInt8.ofNat (128 + r % 64)]
  else if r < 65536 then [UInt8.ofNat (224 + r / 4096), UInt8.ofNat (128 + r / 64 % 64), UInt8.ofNat (128 + r % 64)]
  else [UInt8.ofNat (240 + r / 262144), UInt8.ofNat (128 + r / 4096 % 64), UInt8.ofNat (128 + r / 64 % 64), UInt8.ofNat (128 + r % 64)]
theorem encode_enc (r : Nat) (h : okR r) : Utf8.encode (r : Int) = ⟨(enc r).toArray⟩ := by
  have hv : Utf8.valid (r : Int) = true := by
    unfold okR at h
    simp only [Utf8.valid, Bool.or_eq_true, Bool.and_eq_true, decide_eq_true_eq]
    omega
  simp only [Utf8.encode, hv, if_true, Int.toNat_natCast, enc]
  split
  · rfl
  · split
    · rfl
    · split <;> rfl
theorem enc_length (r : Nat) : 1 ≤ (enc r).length ∧ (enc r).length ≤ 4 := by
  unfold enc
  repeat' split
  all_goals simp
theorem get_getD (s : ByteArray) (i : Nat) : s.get! i = s.data.toList.getD i 0 := by
  obtain ⟨⟨l⟩⟩ := s
  simp [ByteArray.get!, List.getD_eq_getElem?_getD]
  rfl
theorem decode_list (s : ByteArray) (i : Nat) : Utf8.decode s i = decodeN (s.data.toList.length - i) (s.data.toList.getD i 0).toNat (s.data.toList.getD (i + 1) 0).toNat (s.data.toList.getD (i + 2) 0).toNat (s.data.toList.getD (i + 3) 0).toNat := by
  rw [decode_at, get_getD, get_getD, get_getD, get_getD]
  rfl

theorem toNat_ofNat (n : Nat) (h : n < 256) : (UInt8.ofNat n).toNat = n := by
  simp [UInt8.toNat_ofNat']; omega

set_option maxHeartbeats 2000000 in
/-- A rune's bytes, ahead of whatever, are read as that rune. -/
theorem decode_enc (a b : List UInt8) (r : Nat) (h : okR r) : Utf8.decode ⟨(a ++ enc r ++ b).toArray⟩ a.length = (r, (enc r).length) := by
  rw [decode_list]
  have hg : ∀ i, ((a ++ enc r ++ b).getD (a.length + i) 0) = (enc r ++ b).getD i 0 := fun i => by
    rw [List.append_assoc, List.getD_eq_getElem?_getD, List.getD_eq_getElem?_getD, List.getElem?_append_right (by omega)]
    congr 2; omega
  have hg0 := hg 0
  rw [Nat.add_zero] at hg0
  show decodeN ((a ++ enc r ++ b).length - a.length) ((a ++ enc r ++ b).getD a.length 0).toNat ((a ++ enc r ++ b).getD (a.length + 1) 0).toNat ((a ++ enc r ++ b).getD (a.length + 2) 0).toNat ((a ++ enc r ++ b).getD (a.length + 3) 0).toNat = _
  rw [hg0, hg, hg, hg]
  have hn : (a ++ enc r ++ b).length - a.length = (enc r).length + b.length := by rw [List.length_append, List.length_append]; omega
  rw [hn]
  unfold okR at h
  unfold enc
  by_cases h1 : r < 128
  · rw [if_pos h1]
    simp only [List.cons_append, List.nil_append, List.getD_cons_zero, List.length_cons, List.length_nil]
    rw [toNat_ofNat r (by omega)]
    unfold decodeN
    rw [if_pos h1]
  · rw [if_neg h1]
    by_cases h2 : r < 2048
    · rw [if_pos h2]
      simp only [List.cons_append, List.nil_append, List.getD_cons_zero, List.getD_cons_succ, List.length_cons, List.length_nil]
      rw [toNat_ofNat (192 + r / 64) (by omega), toNat_ofNat (128 + r % 64) (by omega)]
      unfold decodeN
      rw [if_neg (by omega), if_pos ⟨by omega, by omega, by omega⟩, if_pos (by omega)]
      apply Prod.ext <;> simp only <;> omega
    · rw [if_neg h2]
      by_cases h3 : r < 65536
      · rw [if_pos h3]
        simp only [List.cons_append, List.nil_append, List.getD_cons_zero, List.getD_cons_succ, List.length_cons, List.length_nil]
        rw [toNat_ofNat (224 + r / 4096) (by omega), toNat_ofNat (128 + r / 64 % 64) (by omega), toNat_ofNat (128 + r % 64) (by omega)]
        unfold decodeN
        rw [if_neg (by omega), if_neg (by omega), if_pos ⟨by omega, ⟨by omega, by omega⟩, by omega, by omega⟩, if_pos (by omega)]
        apply Prod.ext <;> simp only <;> omega
      · rw [if_neg h3]
        simp only [List.cons_append, List.nil_append, List.getD_cons_zero, List.getD_cons_succ, List.length_cons, List.length_nil]
        rw [toNat_ofNat (240 + r / 262144) (by omega), toNat_ofNat (128 + r / 4096 % 64) (by omega), toNat_ofNat (128 + r / 64 % 64) (by omega), toNat_ofNat (128 + r % 64) (by omega)]
        unfold decodeN
        rw [if_neg (by omega), if_neg (by omega), if_neg (by omega), if_pos ⟨by omega, ⟨by omega, by omega⟩, ⟨by omega, by omega⟩, by omega, by omega⟩, if_pos (by omega)]
        apply Prod.ext <;> simp only <;> omega

/-- Every rune that is read can be borne. -/
theorem decode_ok (s : ByteArray) (p : Nat) : okR (Utf8.decode s p).1 := by
  rw [decode_list]
  have h0 := (s.data.toList.getD p 0).toNat_lt
  have h1 := (s.data.toList.getD (p + 1) 0).toNat_lt
  have h2 := (s.data.toList.getD (p + 2) 0).toNat_lt
  have h3 := (s.data.toList.getD (p + 3) 0).toNat_lt
  generalize (s.data.toList.getD p 0).toNat = b0 at *
  generalize (s.data.toList.getD (p + 1) 0).toNat = b1 at *
  generalize (s.data.toList.getD (p + 2) 0).toNat = b2 at *
  generalize (s.data.toList.getD (p + 3) 0).toNat = b3 at *
  unfold decodeN okR
  repeat' split
  all_goals (simp only; omega)
theorem take_drop_one (l : List UInt8) (p : Nat) (h : p < l.length) (k : Nat) : (l.drop p).take (k + 1) = l.getD p 0 :: (l.drop (p + 1)).take k := by
  rw [List.drop_eq_getElem_cons h, List.take_succ_cons]
  simp [List.getD_eq_getElem?_getD, List.getElem?_eq_getElem h]
theorem take2 (l : List UInt8) (p : Nat) (h : p + 1 < l.length) : (l.drop p).take 2 = [l.getD p 0, l.getD (p + 1) 0] := by
  rw [take_drop_one l p (by omega) 1, take_drop_one l (p + 1) h 0, List.take_zero]
theorem take3 (l : List UInt8) (p : Nat) (h : p + 2 < l.length) : (l.drop p).take 3 = [l.getD p 0, l.getD (p + 1) 0, l.getD (p + 2) 0] := by
  rw [take_drop_one l p (by omega) 2, take2 l (p + 1) h]
theorem take4 (l : List UInt8) (p : Nat) (h : p + 3 < l.length) : (l.drop p).take 4 = [l.getD p 0, l.getD (p + 1) 0, l.getD (p + 2) 0, l.getD (p + 3) 0] := by
  rw [take_drop_one l p (by omega) 3, take3 l (p + 1) h]
theorem ofNat_eq (x : UInt8) (n : Nat) (h : n = x.toNat) : UInt8.ofNat n = x := by
  subst h; simp

set_option maxHeartbeats 2000000 in
/-- A rune that is read, and is not U+FFFD, has these bytes; they lie in the text. -/
theorem enc_decode (s : ByteArray) (p : Nat) (hp : p < s.size) (h : (Utf8.decode s p).1 ≠ 65533) :
    p + (Utf8.decode s p).2 ≤ s.size ∧ enc (Utf8.decode s p).1 = (s.data.toList.drop p).take (Utf8.decode s p).2 := by
  have hs : s.size = s.data.toList.length := by simp
  rw [hs] at hp ⊢
  rw [decode_list] at h ⊢
  have h0 := (s.data.toList.getD p 0).toNat_lt
  have h1 := (s.data.toList.getD (p + 1) 0).toNat_lt
  have h2 := (s.data.toList.getD (p + 2) 0).toNat_lt
  have h3 := (s.data.toList.getD (p + 3) 0).toNat_lt
  generalize s.data.toList = l at *
  revert h
  unfold decodeN
  repeat' split
  all_goals intro h
  all_goals simp only [ne_eq, not_true_eq_false] at h
  · refine ⟨by omega, ?_⟩
    unfold enc
    rw [if_pos (by simp only; omega), take_drop_one l p hp 0, List.take_zero]
    simp
  · refine ⟨by simp only; omega, ?_⟩
    unfold enc
    rw [if_neg (by simp only; omega), if_pos (by simp only; omega), take2 l p (by omega)]
    congr 1
    · exact ofNat_eq _ _ (by simp only; omega)
    · congr 1
      exact ofNat_eq _ _ (by simp only; omega)
  · refine ⟨by simp only; omega, ?_⟩
    unfold enc
    rw [if_neg (by simp only; omega), if_neg (by simp only; omega), if_pos (by simp only; omega), take3 l p (by omega)]
    congr 1
    · exact ofNat_eq _ _ (by simp only; omega)
    · congr 1
      · exact ofNat_eq _ _ (by simp only; omega)
      · congr 1
        exact ofNat_eq _ _ (by simp only; omega)
  · refine ⟨by simp only; omega, ?_⟩
    unfold enc
    rw [if_neg (by simp only; omega), if_neg (by simp only; omega), if_neg (by simp only; omega), take4 l p (by omega)]
    congr 1
    · exact ofNat_eq _ _ (by simp only; omega)
    · congr 1
      · exact ofNat_eq _ _ (by simp only; omega)
      · congr 1
        · exact ofNat_eq _ _ (by simp only; omega)
        · congr 1
          exact ofNat_eq _ _ (by simp only; omega)
end Go.Proofs.Yteicfdgadloheaa.nam

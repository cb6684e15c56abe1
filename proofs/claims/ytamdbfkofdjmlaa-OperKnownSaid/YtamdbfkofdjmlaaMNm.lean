/- Plain facts on the runes of a text: no program's run in this file. Plain facts on UTF-8: a rune's bytes are read as that rune; a rune that is read, and is not U+FFFD, has these bytes. No program's run in this file. Plain facts on names, turned names and words. No program's run in this file. What names.letter, digit, blank and mayStand answer of a rune; changelingref01.letter is the same. What names.Name, Many and At answer: of every text. What changelingref01.Runes answers: the runes of a text, and where each begins. -/
import Derived.Laws.RangeAny
import Derived.Lib.Hide
import Derived.Lib.DecodeN
import Derived.Test.YtamdbfkofdjmlaaRows
import Derived.WalkKit
import Derived.BigQuiet
import Derived.Handy
import Derived.Lib.OthersKept
section
namespace Go.Proofs.Ytamdbfkofdjmlaa.nam

def letB (n : Nat) : Bool := decide (97 ≤ n ∧ n ≤ 122 ∨ 65 ≤ n ∧ n ≤ 90 ∨ 191 < n ∧ n ≠ 65533)
def digB (n : Nat) : Bool := decide (48 ≤ n ∧ n ≤ 57)
def blkB (n : Nat) : Bool := decide (n = 32 ∨ n = 9)
def mayB (n : Nat) : Bool := decide (n ≠ 65533 ∧ (32 ≤ n ∨ n = 9))

theorem width_pos (s : ByteArray) (pos : Nat) (h : pos < s.size) : 1 ≤ (Utf8.decode s pos).2 := by
  by_cases ha : (s[pos]'h).toNat < 128
  · rw [decode_ascii s pos h ha]
    exact Nat.le_refl _
  · exact (decode_high s pos h (by omega)).2

/-- The runes of s from byte pos on, at most fuel of them, each with the byte at which it begins. -/
def runesFrom (s : ByteArray) : Nat → Nat → List (Nat × Nat)
  | 0, _ => []
  | f + 1, pos => if pos < s.size then (pos, (Utf8.decode s pos).1) :: runesFrom s f (pos + (Utf8.decode s pos).2) else []

theorem runesFrom_fuel (s : ByteArray) : ∀ (f g pos : Nat), s.size ≤ pos + f → s.size ≤ pos + g → runesFrom s f pos = runesFrom s g pos
  | 0, 0, _, _, _ => rfl
  | 0, g + 1, pos, h, _ => by simp only [runesFrom]; rw [if_neg (by omega)]
  | f + 1, 0, pos, _, h => by simp only [runesFrom]; rw [if_neg (by omega)]
  | f + 1, g + 1, pos, h1, h2 => by
    simp only [runesFrom]
    by_cases hp : pos < s.size
    · have hw := width_pos s pos hp
      rw [if_pos hp, if_pos hp, runesFrom_fuel s f g _ (by omega) (by omega)]
    · rw [if_neg hp, if_neg hp]

/-- All runes from byte pos on. -/
def runesAt (s : ByteArray) (pos : Nat) : List (Nat × Nat) := runesFrom s s.size pos

theorem runesAt_step (s : ByteArray) (pos : Nat) (h : pos < s.size) : runesAt s pos = (pos, (Utf8.decode s pos).1) :: runesAt s (pos + (Utf8.decode s pos).2) := by
  have hw := width_pos s pos h
  have e : runesAt s pos = runesFrom s (s.size + 1) pos := runesFrom_fuel s _ _ _ (by omega) (by omega)
  rw [e]
  simp only [runesFrom]
  rw [if_pos h]
  rfl

theorem runesAt_end (s : ByteArray) (pos : Nat) (h : ¬ pos < s.size) : runesAt s pos = [] := by
  unfold runesAt
  cases s.size with
  | zero => rfl
  | succ n => simp only [runesFrom]; rw [if_neg h]

theorem runesFrom_length (s : ByteArray) : ∀ f pos, (runesFrom s f pos).length ≤ f
  | 0, _ => Nat.le_refl _
  | f + 1, pos => by
    simp only [runesFrom]
    split
    · have := runesFrom_length s f (pos + (Utf8.decode s pos).2)
      simp only [List.length_cons]; omega
    · simp
theorem runesAt_length (s : ByteArray) (pos : Nat) : (runesAt s pos).length ≤ s.size := runesFrom_length s _ _

/-- The runes alone. -/
def rn (s : ByteArray) (pos : Nat) : List Nat := (runesAt s pos).map Prod.snd
theorem rn_step (s : ByteArray) (pos : Nat) (h : pos < s.size) : rn s pos = (Utf8.decode s pos).1 :: rn s (pos + (Utf8.decode s pos).2) := by
  unfold rn; rw [runesAt_step s pos h]; rfl
theorem rn_end (s : ByteArray) (pos : Nat) (h : ¬ pos < s.size) : rn s pos = [] := by
  unfold rn; rw [runesAt_end s pos h]; rfl
theorem rn_length (s : ByteArray) (pos : Nat) : (rn s pos).length ≤ s.size := by unfold rn; rw [List.length_map]; exact runesAt_length s pos

/-- Whether runes, behind so many others, make a name. -/
def nameFrom : Nat → List Nat → Bool
  | many, [] => decide (0 < many)
  | many, r :: t => if letB r = false ∧ (many = 0 ∨ digB r = false ∧ r ≠ 45) then false else if 24 < many + 1 then false else nameFrom (many + 1) t
def nameB (s : ByteArray) : Bool := nameFrom 0 (rn s 0)

end Go.Proofs.Ytamdbfkofdjmlaa.nam
end
section
namespace Go.Proofs.Ytamdbfkofdjmlaa.nam
open Go.Lib (decodeN decode_at)

/-- A code point that UTF-8 can bear. -/
def okR (r : Nat) : Prop := r < 55296 ∨ (57344 ≤ r ∧ r ≤ 1114111)
/-- A rune's bytes. -/
def enc (r : Nat) : List UInt8 :=
  if r < 128 then [UInt8.ofNat r]
  else if r < 2048 then [UInt8.ofNat (192 + r / 64), UInt8.ofNat (128 + r % 64)]
  else if r < 65536 then [UInt8.ofNat (224 + r / 4096), UInt8.ofNat (128 + r / 64 % 64), UInt8.ofNat (128 + r % 64)]
  else [UInt8.ofNat (240 + r / 262144), UInt8.ofNat (128 + r / 4096 % 64), UInt8.ofNat (128 + r / 64 % 64), UInt8.ofNat (128 + r % 64)]
theorem encode_enc (r : Nat) (h : okR r) : Utf8.encode (r : Int) = ⟨(enc r).toArray⟩ := by
  have hv : Utf8.valid (r : Int) = true := by
    unfold okR at h
    simp only [Utf8.valid, Bool.or_eq_true, Bool.and_eq_true, decide_eq_true_eq]
    omega
  simp only [Utf8.encode, hv, if_true, Int.toNat_natCast, enc]
  split
  · rfl
  · split
    · rfl
    · split <;> rfl
theorem enc_length (r : Nat) : 1 ≤ (enc r).length ∧ (enc r).length ≤ 4 := by
  unfold enc
  repeat' split
  all_goals simp
theorem get_getD (s : ByteArray) (i : Nat) : s.get! i = s.data.toList.getD i 0 := by
  obtain ⟨⟨l⟩⟩ := s
  simp [ByteArray.get!, List.getD_eq_getElem?_getD]
  rfl
theorem decode_list (s : ByteArray) (i : Nat) : Utf8.decode s i = decodeN (s.data.toList.length - i) (s.data.toList.getD i 0).toNat (s.data.toList.getD (i + 1) 0).toNat (s.data.toList.getD (i + 2) 0).toNat (s.data.toList.getD (i + 3) 0).toNat := by
  rw [decode_at, get_getD, get_getD, get_getD, get_getD]
  rfl

theorem toNat_ofNat (n : Nat) (h : n < 256) : (UInt8.ofNat n).toNat = n := by
  simp [UInt8.toNat_ofNat']; omega

set_option maxHeartbeats 2000000 in
/-- A rune's bytes, ahead of whatever, are read as that rune. -/
theorem decode_enc (a b : List UInt8) (r : Nat) (h : okR r) : Utf8.decode ⟨(a ++ enc r ++ b).toArray⟩ a.length = (r, (enc r).length) := by
  rw [decode_list]
  have hg : ∀ i, ((a ++ enc r ++ b).getD (a.length + i) 0) = (enc r ++ b).getD i 0 := fun i => by
    rw [List.append_assoc, List.getD_eq_getElem?_getD, List.getD_eq_getElem?_getD, List.getElem?_append_right (by omega)]
    congr 2; omega
  have hg0 := hg 0
  rw [Nat.add_zero] at hg0
  show decodeN ((a ++ enc r ++ b).length - a.length) ((a ++ enc r ++ b).getD a.length 0).toNat ((a ++ enc r ++ b).getD (a.length + 1) 0).toNat ((a ++ enc r ++ b).getD (a.length + 2) 0).toNat ((a ++ enc r ++ b).getD (a.length + 3) 0).toNat = _
  rw [hg0, hg, hg, hg]
  have hn : (a ++ enc r ++ b).length - a.length = (enc r).length + b.length := by rw [List.length_append, List.length_append]; omega
  rw [hn]
  unfold okR at h
  unfold enc
  by_cases h1 : r < 128
  · rw [if_pos h1]
    simp only [List.cons_append, List.nil_append, List.getD_cons_zero, List.length_cons, List.length_nil]
    rw [toNat_ofNat r (by omega)]
    unfold decodeN
    rw [if_pos h1]
  · rw [if_neg h1]
    by_cases h2 : r < 2048
    · rw [if_pos h2]
      simp only [List.cons_append, List.nil_append, List.getD_cons_zero, List.getD_cons_succ, List.length_cons, List.length_nil]
      rw [toNat_ofNat (192 + r / 64) (by omega), toNat_ofNat (128 + r % 64) (by omega)]
      unfold decodeN
      rw [if_neg (by omega), if_pos ⟨by omega, by omega, by omega⟩, if_pos (by omega)]
      apply Prod.ext <;> simp only <;> omega
    · rw [if_neg h2]
      by_cases h3 : r < 65536
      · rw [if_pos h3]
        simp only [List.cons_append, List.nil_append, List.getD_cons_zero, List.getD_cons_succ, List.length_cons, List.length_nil]
        rw [toNat_ofNat (224 + r / 4096) (by omega), toNat_ofNat (128 + r / 64 % 64) (by omega), toNat_ofNat (128 + r % 64) (by omega)]
        unfold decodeN
        rw [if_neg (by omega), if_neg (by omega), if_pos ⟨by omega, ⟨by omega, by omega⟩, by omega, by omega⟩, if_pos (by omega)]
        apply Prod.ext <;> simp only <;> omega
      · rw [if_neg h3]
        simp only [List.cons_append, List.nil_append, List.getD_cons_zero, List.getD_cons_succ, List.length_cons, List.length_nil]
        rw [toNat_ofNat (240 + r / 262144) (by omega), toNat_ofNat (128 + r / 4096 % 64) (by omega), toNat_ofNat (128 + r / 64 % 64) (by omega), toNat_ofNat (128 + r % 64) (by omega)]
        unfold decodeN
        rw [if_neg (by omega), if_neg (by omega), if_neg (by omega), if_pos ⟨by omega, ⟨by omega, by omega⟩, ⟨by omega, by omega⟩, by omega, by omega⟩, if_pos (by omega)]
        apply Prod.ext <;> simp only <;> omega

/-- Every rune that is read can be borne. -/
theorem decode_ok (s : ByteArray) (p : Nat) : okR (Utf8.decode s p).1 := by
  rw [decode_list]
  have h0 := (s.data.toList.getD p 0).toNat_lt
  have h1 := (s.data.toList.getD (p + 1) 0).toNat_lt
  have h2 := (s.data.toList.getD (p + 2) 0).toNat_lt
  have h3 := (s.data.toList.getD (p + 3) 0).toNat_lt
  generalize (s.data.toList.getD p 0).toNat = b0 at *
  generalize (s.data.toList.getD (p + 1) 0).toNat = b1 at *
  generalize (s.data.toList.getD (p + 2) 0).toNat = b2 at *
  generalize (s.data.toList.getD (p + 3) 0).toNat = b3 at *
  unfold decodeN okR
  repeat' split
  all_goals (simp only; omega)
theorem take_drop_one (l : List UInt8) (p : Nat) (h : p < l.length) (k : Nat) : (l.drop p).take (k + 1) = l.getD p 0 :: (l.drop (p + 1)).take k := by
  rw [List.drop_eq_getElem_cons h, List.take_succ_cons]
  simp [List.getD_eq_getElem?_getD, List.getElem?_eq_getElem h]
theorem take2 (l : List UInt8) (p : Nat) (h : p + 1 < l.length) : (l.drop p).take 2 = [l.getD p 0, l.getD (p + 1) 0] := by
  rw [take_drop_one l p (by omega) 1, take_drop_one l (p + 1) h 0, List.take_zero]
theorem take3 (l : List UInt8) (p : Nat) (h : p + 2 < l.length) : (l.drop p).take 3 = [l.getD p 0, l.getD (p + 1) 0, l.getD (p + 2) 0] := by
  rw [take_drop_one l p (by omega) 2, take2 l (p + 1) h]
theorem take4 (l : List UInt8) (p : Nat) (h : p + 3 < l.length) : (l.drop p).take 4 = [l.getD p 0, l.getD (p + 1) 0, l.getD (p + 2) 0, l.getD (p + 3) 0] := by
  rw [take_drop_one l p (by omega) 3, take3 l (p + 1) h]
theorem ofNat_eq (x : UInt8) (n : Nat) (h : n = x.toNat) : UInt8.ofNat n = x := by
  subst h; simp

set_option maxHeartbeats 2000000 in
/-- A rune that is read, and is not U+FFFD, has these bytes; they lie in the text. -/
theorem enc_decode (s : ByteArray) (p : Nat) (hp : p < s.size) (h : (Utf8.decode s p).1 ≠ 65533) :
    p + (Utf8.decode s p).2 ≤ s.size ∧ enc (Utf8.decode s p).1 = (s.data.toList.drop p).take (Utf8.decode s p).2 := by
  have hs : s.size = s.data.toList.length := by simp
  rw [hs] at hp ⊢
  rw [decode_list] at h ⊢
  have h0 := (s.data.toList.getD p 0).toNat_lt
  have h1 := (s.data.toList.getD (p + 1) 0).toNat_lt
  have h2 := (s.data.toList.getD (p + 2) 0).toNat_lt
  have h3 := (s.data.toList.getD (p + 3) 0).toNat_lt
  generalize s.data.toList = l at *
  revert h
  unfold decodeN
  repeat' split
  all_goals intro h
  all_goals simp only [ne_eq, not_true_eq_false] at h
  · refine ⟨by omega, ?_⟩
    unfold enc
    rw [if_pos (by simp only; omega), take_drop_one l p hp 0, List.take_zero]
    simp
  · refine ⟨by simp only; omega, ?_⟩
    unfold enc
    rw [if_neg (by simp only; omega), if_pos (by simp only; omega), take2 l p (by omega)]
    congr 1
    · exact ofNat_eq _ _ (by simp only; omega)
    · congr 1
      exact ofNat_eq _ _ (by simp only; omega)
  · refine ⟨by simp only; omega, ?_⟩
    unfold enc
    rw [if_neg (by simp only; omega), if_neg (by simp only; omega), if_pos (by simp only; omega), take3 l p (by omega)]
    congr 1
    · exact ofNat_eq _ _ (by simp only; omega)
    · congr 1
      · exact ofNat_eq _ _ (by simp only; omega)
      · congr 1
        exact ofNat_eq _ _ (by simp only; omega)
  · refine ⟨by simp only; omega, ?_⟩
    unfold enc
    rw [if_neg (by simp only; omega), if_neg (by simp only; omega), if_neg (by simp only; omega), take4 l p (by omega)]
    congr 1
    · exact ofNat_eq _ _ (by simp only; omega)
    · congr 1
      · exact ofNat_eq _ _ (by simp only; omega)
      · congr 1
        · exact ofNat_eq _ _ (by simp only; omega)
        · congr 1
          exact ofNat_eq _ _ (by simp only; omega)
end Go.Proofs.Ytamdbfkofdjmlaa.nam
end
section
namespace Go.Proofs.Ytamdbfkofdjmlaa.nam

/-- The text of runes. -/
def textOf (l : List Nat) : ByteArray := ⟨(l.flatMap enc).toArray⟩
theorem textOf_toList (l : List Nat) : (textOf l).data.toList = l.flatMap enc := by simp [textOf]
theorem textOf_size (l : List Nat) : (textOf l).size = (l.flatMap enc).length := by
  show (textOf l).data.size = _
  rw [← Array.length_toList, textOf_toList]
theorem flat_length (l : List Nat) : l.length ≤ (l.flatMap enc).length ∧ (l.flatMap enc).length ≤ 4 * l.length := by
  induction l with
  | nil => simp
  | cons r t ih =>
    have := enc_length r
    simp only [List.flatMap_cons, List.length_append, List.length_cons]
    omega
theorem byteArray_ext {a b : ByteArray} (h : a.data.toList = b.data.toList) : a = b := by
  obtain ⟨⟨a⟩⟩ := a
  obtain ⟨⟨b⟩⟩ := b
  simp at h
  rw [h]
theorem append_toList (a b : ByteArray) : (a ++ b).data.toList = a.data.toList ++ b.data.toList := by simp
theorem extract_toList (s : ByteArray) (i j : Nat) : (s.extract i j).data.toList = (s.data.toList.take j).drop i := by
  simp [List.drop_take]
theorem extract_toList' (s : ByteArray) (i w : Nat) : (s.extract i (i + w)).data.toList = (s.data.toList.drop i).take w := by
  rw [extract_toList, List.drop_take]
  congr 1; omega

theorem decode_step_ok (s : ByteArray) : ∀ (f pos : Nat), ∀ x ∈ runesFrom s f pos, okR x.2
  | 0, _, x, h => by simp [runesFrom] at h
  | f + 1, pos, x, h => by
    simp only [runesFrom] at h
    split at h
    · rcases List.mem_cons.1 h with rfl | h
      · exact decode_ok s pos
      · exact decode_step_ok s f _ x h
    · simp at h
theorem rn_ok (s : ByteArray) (pos : Nat) : ∀ r ∈ rn s pos, okR r := by
  intro r hr
  obtain ⟨x, hx, rfl⟩ := List.mem_map.1 hr
  exact decode_step_ok s _ _ x hx

/-- A text without U+FFFD is the text of its runes. -/
theorem drop_rn (s : ByteArray) : ∀ (f pos : Nat), s.size ≤ pos + f → pos ≤ s.size → (∀ r ∈ rn s pos, r ≠ 65533) → s.data.toList.drop pos = (rn s pos).flatMap enc
  | 0, pos, h, hp, _ => by
    rw [rn_end s pos (by omega), List.drop_eq_nil_of_le (by simp; omega)]
    rfl
  | f + 1, pos, h, hp, hr => by
    by_cases hlt : pos < s.size
    · rw [rn_step s pos hlt] at hr ⊢
      have hw := width_pos s pos hlt
      obtain ⟨h1, h2⟩ := enc_decode s pos hlt (hr _ (List.mem_cons_self))
      rw [List.flatMap_cons, h2, ← drop_rn s f (pos + (Utf8.decode s pos).2) (by omega) h1 (fun r hm => hr r (List.mem_cons_of_mem _ hm)), ← List.drop_drop, List.take_append_drop]
    · rw [rn_end s pos hlt, List.drop_eq_nil_of_le (by simp; omega)]
      rfl
theorem textOf_rn (s : ByteArray) (h : ∀ r ∈ rn s 0, r ≠ 65533) : textOf (rn s 0) = s := by
  apply byteArray_ext
  rw [textOf_toList, ← drop_rn s s.size 0 (by omega) (by omega) h, List.drop_zero]
/-- The runes of a text of runes. -/
theorem rn_flat (a : List UInt8) (l : List Nat) (h : ∀ r ∈ l, okR r) : rn ⟨(a ++ l.flatMap enc).toArray⟩ a.length = l := by
  induction l generalizing a with
  | nil =>
    rw [rn_end]
    show ¬ a.length < (a ++ []).toArray.size
    simp
  | cons r t ih =>
    have hr := h r (List.mem_cons_self)
    have hl := enc_length r
    have hsz : a.length < (⟨(a ++ (r :: t).flatMap enc).toArray⟩ : ByteArray).size := by
      show a.length < (a ++ (r :: t).flatMap enc).toArray.size
      simp only [List.flatMap_cons, List.size_toArray, List.length_append]; omega
    have hd := decode_enc a (t.flatMap enc) r hr
    have e : a ++ (r :: t).flatMap enc = (a ++ enc r) ++ t.flatMap enc := by simp
    rw [rn_step _ _ hsz]
    rw [e, hd]
    simp only
    have := ih (a ++ enc r) (fun x hx => h x (List.mem_cons_of_mem _ hx))
    rw [List.length_append] at this
    rw [this]
theorem rn_textOf (l : List Nat) (h : ∀ r ∈ l, okR r) : rn (textOf l) 0 = l := by
  have := rn_flat [] l h
  simpa [textOf] using this
theorem nameB_textOf (l : List Nat) (h : ∀ r ∈ l, okR r) : nameB (textOf l) = nameFrom 0 l := by unfold nameB; rw [rn_textOf l h]

/-- Whether a rune may stand in a name. -/
def nruneB (r : Nat) : Bool := letB r || digB r || decide (r = 45)
def nameL (l : List Nat) : Bool := decide (1 ≤ l.length ∧ l.length ≤ 24) && (letB (l.headD 0) && l.all nruneB)
theorem nameFrom_on (l : List Nat) : ∀ m, 0 < m → m ≤ 24 → nameFrom m l = (decide (m + l.length ≤ 24) && l.all nruneB) := by
  induction l with
  | nil => intro m h0 h1; simp [nameFrom, h0, h1]
  | cons r t ih =>
    intro m h0 h1
    simp only [nameFrom]
    by_cases hb : letB r = false ∧ (m = 0 ∨ digB r = false ∧ r ≠ 45)
    · rw [if_pos hb]
      have : nruneB r = false := by
        obtain ⟨h2, h3⟩ := hb
        rcases h3 with h3 | ⟨h3, h4⟩
        · omega
        · simp [nruneB, h2, h3, h4]
      simp [this]
    · rw [if_neg hb]
      have hn : nruneB r = true := by
        unfold nruneB
        by_cases a1 : letB r = true
        · simp [a1]
        · by_cases a2 : digB r = true
          · simp [a2]
          · by_cases a3 : r = 45
            · simp [a3]
            · exact absurd ⟨by simpa using a1, Or.inr ⟨by simpa using a2, a3⟩⟩ hb
      by_cases h24 : 24 < m + 1
      · rw [if_pos h24, decide_eq_false (by simp only [List.length_cons]; omega)]
        rfl
      · rw [if_neg h24, ih (m + 1) (by omega) (by omega)]
        simp only [List.all_cons, hn, Bool.true_and, List.length_cons]
        congr 1
        rw [Bool.eq_iff_iff]; simp; omega
theorem nameFrom_eq (l : List Nat) : nameFrom 0 l = nameL l := by
  cases l with
  | nil => rfl
  | cons r t =>
    unfold nameL
    simp only [nameFrom]
    by_cases hl : letB r = true
    · rw [if_neg (by simp [hl]), if_neg (by omega), nameFrom_on t 1 (by omega) (by omega)]
      have hn : nruneB r = true := by simp [nruneB, hl]
      simp only [List.headD_cons, hl, Bool.true_and, List.all_cons, hn, List.length_cons]
      congr 1
      rw [Bool.eq_iff_iff]; simp; omega
    · rw [if_pos ⟨by simpa using hl, by simp⟩]
      simp only [List.headD_cons, Bool.not_eq_true] at hl ⊢
      simp [hl]
theorem nameB_eq (s : ByteArray) : nameB s = nameL (rn s 0) := nameFrom_eq _
theorem nrune_facts {r : Nat} (h : nruneB r = true) : r ≠ 65533 ∧ mayB r = true ∧ blkB r = false := by
  unfold nruneB letB digB at h
  unfold mayB blkB
  simp only [Bool.or_eq_true, decide_eq_true_eq] at h
  refine ⟨by omega, by simp; omega, by simp; omega⟩
theorem name_facts {s : ByteArray} (h : nameB s = true) : 1 ≤ (rn s 0).length ∧ (rn s 0).length ≤ 24 ∧ (∀ r ∈ rn s 0, nruneB r = true) ∧ textOf (rn s 0) = s ∧ s.size ≤ 96 := by
  rw [nameB_eq] at h
  unfold nameL at h
  simp only [Bool.and_eq_true, decide_eq_true_eq, List.all_eq_true] at h
  obtain ⟨⟨h1, h2⟩, _, h3⟩ := h
  have ht : textOf (rn s 0) = s := textOf_rn s (fun r hr => (nrune_facts (h3 r hr)).1)
  refine ⟨h1, h2, h3, ht, ?_⟩
  have := flat_length (rn s 0)
  rw [← textOf_size, ht] at this
  omega

/-- What Turned answers. -/
def turnedO (s : ByteArray) : ByteArray × Int :=
  if nameB s then (if nameB (textOf (rn s 0).reverse) then (textOf (rn s 0).reverse, 0) else (s, 0)) else (⟨#[]⟩, 2)
theorem turned_bad {s : ByteArray} (h : nameB s = false) : turnedO s = (⟨#[]⟩, 2) := by unfold turnedO; rw [h]; rfl
theorem turned_self {s : ByteArray} (h : nameB s = true) (h2 : nameB (textOf (rn s 0).reverse) = false) : turnedO s = (s, 0) := by unfold turnedO; rw [h, h2]; rfl
theorem turned_other {s : ByteArray} (h : nameB s = true) (h2 : nameB (textOf (rn s 0).reverse) = true) : turnedO s = (textOf (rn s 0).reverse, 0) := by unfold turnedO; rw [h, h2]; rfl
theorem rn_turned (s : ByteArray) : rn (textOf (rn s 0).reverse) 0 = (rn s 0).reverse := rn_textOf _ (fun r hr => rn_ok s 0 r (List.mem_reverse.1 hr))
/-- Turned twice a name is itself again; it has as many runes. -/
theorem turned_twice {s : ByteArray} (h : nameB s = true) : (turnedO s).2 = 0 ∧ nameB (turnedO s).1 = true ∧ turnedO (turnedO s).1 = (s, 0) ∧ (rn (turnedO s).1 0).length = (rn s 0).length := by
  obtain ⟨_, _, _, ht, _⟩ := name_facts h
  cases h2 : nameB (textOf (rn s 0).reverse) with
  | false => rw [turned_self h h2]; exact ⟨rfl, h, turned_self h h2, rfl⟩
  | true =>
    rw [turned_other h h2]
    refine ⟨rfl, h2, ?_, by rw [rn_turned]; simp⟩
    have hr : textOf (rn (textOf (rn s 0).reverse) 0).reverse = s := by rw [rn_turned, List.reverse_reverse, ht]
    rw [turned_other h2 (by rw [hr]; exact h), hr]
end Go.Proofs.Ytamdbfkofdjmlaa.nam
end
section
namespace Go.Proofs.Ytamdbfkofdjmlaa.nam
open Go.RowKit

theorem ret_bool {a b : Bool} (h : a = b) : Ending.returned (.bool a) = .returned (.bool b) := by rw [h]

end Go.Proofs.Ytamdbfkofdjmlaa.nam
end
section
namespace Go.Proofs.Ytamdbfkofdjmlaa.nam
open Go.RowKit

theorem below_iter (w : World) (s : ByteArray) (pos : Nat) : Below w.heap.size w (w.iter s pos) := (Below.refl _ w).alloc (Nat.le_refl _) _
theorem ret_int {k : IntKind} {a b : Int} (h : a = b) : Ending.returned (.int k a) = .returned (.int k b) := by rw [h]

theorem drop_step {s : ByteArray} {k pos : Nat} (hp : pos < s.size) (h : runesAt s pos = (runesAt s 0).drop k) : (runesAt s 0)[k]? = some (pos, (Utf8.decode s pos).1) ∧ runesAt s (pos + (Utf8.decode s pos).2) = (runesAt s 0).drop (k + 1) := by
  rw [runesAt_step s pos hp] at h
  constructor
  · have := congrArg (·[0]?) h
    simpa using this.symm
  · have := congrArg List.tail h
    simpa using this
theorem below_on {B : Nat} {w w' w'' : World} (h : Below B w w') (k : Below w'.heap.size w' w'') (hB : B ≤ w'.heap.size) : Below B w w'' := h.trans (k.mono hB)
theorem below_on' {w w' w'' : World} (h : Below w.heap.size w w') (k : Below w'.heap.size w' w'') : Below w.heap.size w w'' := h.trans (k.mono h.size)
end Go.Proofs.Ytamdbfkofdjmlaa.nam
end
section
namespace Go.Proofs.Ytamdbfkofdjmlaa.nam
open Go.RowKit

theorem own_below {W W' : World} {B e size n : Nat} {v : Value} {xs : List Value} (h : W.ownsRow B e size v n xs) (hb : Below W.heap.size W W') : W'.ownsRow B e size v n xs :=
  h.kept (row := none) ⟨hb.os, hb.tape, hb.output, hb.size, fun k hk _ => hb.block k hk⟩ (by cases hv : v.ownBlock <;> simp)
theorem own_iterAt {w : World} {B e size n : Nat} {v : Value} {xs : List Value} {k : Nat} {s : ByteArray} {pos : Nat} (h : w.ownsRow B e size v n xs) (hk : w.heap[k]? = some (.stringIter s pos)) (pos' : Nat) : (w.iterAt k s pos').ownsRow B e size v n xs := by
  refine ⟨h.1, ?_⟩
  rcases h.2 with h0 | ⟨g, cap, cur, hv, hb, hg, rest⟩
  · exact .inl h0
  · refine .inr ⟨g, cap, cur, hv, hb, ?_, rest⟩
    rw [Lib.iterAt_other _ _ _ _ _ (fun e => by subst e; rw [hk] at hg; cases hg)]
    exact hg
theorem own_ne_iter {w : World} {B e size n : Nat} {v : Value} {xs : List Value} {k : Nat} {s : ByteArray} {pos : Nat} (h : w.ownsRow B e size v n xs) (hk : w.heap[k]? = some (.stringIter s pos)) : some k ≠ v.ownBlock := by
  rcases h.2 with ⟨rfl, _⟩ | ⟨g, cap, cur, rfl, hb, hg, rest⟩
  · simp [Value.ownBlock]
  · intro e
    simp only [Value.ownBlock, Option.some.injEq] at e
    subst e
    rw [hk] at hg
    cases hg
/-- Two rows of two element types are two rows. -/
theorem own_ne_own {w : World} {B B' e e' size size' n n' : Nat} {v v' : Value} {xs xs' : List Value} (h : w.ownsRow B e size v n xs) (h' : w.ownsRow B' e' size' v' n' xs') (hne : e ≠ e') : v.ownBlock = none ∨ v.ownBlock ≠ v'.ownBlock := by
  rcases h.2 with ⟨rfl, _⟩ | ⟨g, cap, cur, rfl, hb, hg, rest⟩
  · exact .inl rfl
  · rcases h'.2 with ⟨rfl, _⟩ | ⟨g', cap', cur', rfl, hb', hg', rest'⟩
    · exact .inr (by simp [Value.ownBlock])
    · refine .inr (fun e => ?_)
      simp only [Value.ownBlock, Option.some.injEq] at e
      subst e
      rw [hg] at hg'
      cases hg'
      exact hne rfl
/-- How a slice that is owned is read. -/
theorem own_cases {w : World} {B e n : Nat} {v : Value} {xs : List Value} (h : w.ownsRow B e 1 v n xs) :
    (v = .slice none 0 0 ∧ n = 0) ∨ ∃ g cap, v = .slice (some ⟨g, 0, none⟩) n cap ∧ n ≤ cap ∧ cap ≤ maxLen ∧ B ≤ g ∧ g < w.heap.size ∧ ∀ j u, xs[j]? = some u → w.cell? ⟨g, j, none⟩ = some u := by
  rcases h.2 with h0 | ⟨g, cap, cur, rfl, hb, hg, h1, h2, h3, h4⟩
  · exact .inl h0
  · refine .inr ⟨g, cap, rfl, h1, h2, hb, (Array.getElem?_eq_some_iff.1 hg).1, fun j u hj => ?_⟩
    have := h.cells (g := g) rfl j u hj
    have hadd : (⟨g, 0, none⟩ : Addr).add j = ⟨g, j, none⟩ := by unfold Addr.add; split <;> simp_all
    rwa [hadd] at this
theorem cell_one_new (w : World) (x : Value) (t : TypeId) : ∀ j u, [x][j]? = some u → (w.alloc (.cells #[x] t)).cell? ((⟨w.heap.size, 0, none⟩ : Addr).add j) = some u := by
  intro j u hj
  match j, hj with
  | 0, hj => simp at hj; subst hj; simp [Addr.add]
  | (j + 1), hj => simp at hj

theorem info21 : (Try.prog.info? 21).map (fun i => (i.zero, i.size, i.bytes)) = some (some (.int .i32 0), 1, 4) := by kernel_rfl
theorem info3 : (Try.prog.info? 3).map (fun i => (i.zero, i.size, i.bytes)) = some (some (.int .i64 0), 1, 8) := by kernel_rfl
theorem info9 : (Try.prog.info? 9).map (fun i => (i.zero, i.size, i.bytes)) = some (some (.string ⟨#[]⟩), 1, 16) := by kernel_rfl

def runeV (x : Nat × Nat) : Value := .int .i32 x.2
def placeV (x : Nat × Nat) : Value := .int .i64 x.1

theorem own_slice {w : World} {B e n : Nat} {v : Value} {xs : List Value} (h : w.ownsRow B e 1 v n xs) : ∃ a cap, v = .slice a n cap ∧ n ≤ cap ∧ cap ≤ maxLen := by
  rcases own_cases h with ⟨rfl, rfl⟩ | ⟨g, cap, rfl, h1, h2, _⟩
  · exact ⟨none, 0, rfl, Nat.le_refl _, Nat.zero_le _⟩
  · exact ⟨_, cap, rfl, h1, h2⟩

end Go.Proofs.Ytamdbfkofdjmlaa.nam
end

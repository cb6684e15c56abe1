/- Plain facts on the runes of a text: no program's run in this file. Plain facts on UTF-8: a rune's bytes are read as that rune; a rune that is read, and is not U+FFFD, has these bytes. No program's run in this file. Plain facts on names, turned names and words. No program's run in this file. What names.letter, digit, blank and mayStand answer of a rune; changelingref01.letter is the same. What names.Name, Many and At answer: of every text. What changelingref01.Runes answers: the runes of a text, and where each begins. What changelingref01.Name answers: of every text. -/
import Derived.Laws.RangeAny
import Derived.Lib.Hide
import Derived.Lib.DecodeN
import Derived.Test.YtnelfokfgnikfaaDoorRows
import Derived.WalkKit
import Derived.BigQuiet
import Derived.Handy
import Derived.Lib.OthersKept
section
namespace Go.Proofs.YtnelfokfgnikfaaDoor.nam

def letB (n : Nat) : Bool := decide (97 ≤ n ∧ n ≤ 122 ∨ 65 ≤ n ∧ n ≤ 90 ∨ 191 < n ∧ n ≠ 65533)
def digB (n : Nat) : Bool := decide (48 ≤ n ∧ n ≤ 57)
def blkB (n : Nat) : Bool := decide (n = 32 ∨ n = 9)
def mayB (n : Nat) : Bool := decide (n ≠ 65533 ∧ (32 ≤ n ∨ n = 9))

theorem width_pos (s : ByteArray) (pos : Nat) (h : pos < s.size) : 1 ≤ (Utf8.decode s pos).2 := by
  by_cases ha : (s[pos]'h).toNat < 128
  · rw [decode_ascii s pos h ha]
    exact Nat.le_refl _
  · exact (decode_high s pos h (by omega)).2

/-- The runes of s from byte pos on, at most fuel of them, each with the byte at which it begins. -/
def runesFrom (s : ByteArray) : Nat → Nat → List (Nat × Nat)
  | 0, _ => []
  | f + 1, pos => if pos < s.size then (pos, (Utf8.decode s pos).1) :: runesFrom s f (pos + (Utf8.decode s pos).2) else []

theorem runesFrom_fuel (s : ByteArray) : ∀ (f g pos : Nat), s.size ≤ pos + f → s.size ≤ pos + g → runesFrom s f pos = runesFrom s g pos
  | 0, 0, _, _, _ => rfl
  | 0, g + 1, pos, h, _ => by simp only [runesFrom]; rw [if_neg (by omega)]
  | f + 1, 0, pos, _, h => by simp only [runesFrom]; rw [if_neg (by omega)]
  | f + 1, g + 1, pos, h1, h2 => by
    simp only [runesFrom]
    by_cases hp : pos < s.size
    · have hw := width_pos s pos hp
      rw [if_pos hp, if_pos hp, runesFrom_fuel s f g _ (by omega) (by omega)]
    · rw [if_neg hp, if_neg hp]

/-- All runes from byte pos on. -/
def runesAt (s : ByteArray) (pos : Nat) : List (Nat × Nat) := runesFrom s s.size pos

theorem runesAt_step (s : ByteArray) (pos : Nat) (h : pos < s.size) : runesAt s pos = (pos, (Utf8.decode s pos).1) :: runesAt s (pos + (Utf8.decode s pos).2) := by
  have hw := width_pos s pos h
  have e : runesAt s pos = runesFrom s (s.size + 1) pos := runesFrom_fuel s _ _ _ (by omega) (by omega)
  rw [e]
  simp only [runesFrom]
  rw [if_pos h]
  rfl

theorem runesAt_end (s : ByteArray) (pos : Nat) (h : ¬ pos < s.size) : runesAt s pos = [] := by
  unfold runesAt
  cases s.size with
  | zero => rfl
  | succ n => simp only [runesFrom]; rw [if_neg h]

theorem runesFrom_length (s : ByteArray) : ∀ f pos, (runesFrom s f pos).length ≤ f
  | 0, _ => Nat.le_refl _
  | f + 1, pos => by
    simp only [runesFrom]
    split
    · have := runesFrom_length s f (pos + (Utf8.decode s pos).2)
      simp only [List.length_cons]; omega
    · simp
theorem runesAt_length (s : ByteArray) (pos : Nat) : (runesAt s pos).length ≤ s.size := runesFrom_length s _ _

/-- The runes alone. -/
def rn (s : ByteArray) (pos : Nat) : List Nat := (runesAt s pos).map Prod.snd
theorem rn_step (s : ByteArray) (pos : Nat) (h : pos < s.size) : rn s pos = (Utf8.decode s pos).1 :: rn s (pos + (Utf8.decode s pos).2) := by
  unfold rn; rw [runesAt_step s pos h]; rfl
theorem rn_end (s : ByteArray) (pos : Nat) (h : ¬ pos < s.size) : rn s pos = [] := by
  unfold rn; rw [runesAt_end s pos h]; rfl
theorem rn_length (s : ByteArray) (pos : Nat) : (rn s pos).length ≤ s.size := by unfold rn; rw [List.length_map]; exact runesAt_length s pos

/-- Whether runes, behind so many others, make a name. -/
def nameFrom : Nat → List Nat → Bool
  | many, [] => decide (0 < many)
  | many, r :: t => if letB r = false ∧ (many = 0 ∨ digB r = false ∧ r ≠ 45) then false else if 24 < many + 1 then false else nameFrom (many + 1) t
def nameB (s : ByteArray) : Bool := nameFrom 0 (rn s 0)

end Go.Proofs.YtnelfokfgnikfaaDoor.nam
end
section
namespace Go.Proofs.YtnelfokfgnikfaaDoor.nam
open Go.Lib (decodeN decode_at)

/-- A code point that UTF-8 can bear. -/
def okR (r : Nat) : Prop := r < 55296 ∨ (57344 ≤ r ∧ r ≤ 1114111)
/-- A rune's bytes. -/
def enc (r : Nat) : List UInt8 :=
  if r < 128 then [UInt8.ofNat r]
  else if r < 2048 then [UInt8.ofNat (192 + r / 64), UInt8.ofNat (128 + r % 64)]
  else if r < 65536 then [UInt8.ofNat (224 + r / 4096), UInt8.ofNat (128 + r / 64 % 64), UInt8.ofNat (128 + r % 64)]
  else [UInt8.ofNat (240 + r / 262144), UInt8.ofNat (128 + r / 4096 % 64), UInt8.ofNat (128 + r / 64 % 64), UInt8.ofNat (128 + r % 64)]
theorem encode_enc (r : Nat) (h : okR r) : Utf8.encode (r : Int) = ⟨(enc r).toArray⟩ := by
  have hv : Utf8.valid (r : Int) = true := by
    unfold okR at h
    simp only [Utf8.valid, Bool.or_eq_true, Bool.and_eq_true, decide_eq_true_eq]
    omega
  simp only [Utf8.encode, hv, if_true, Int.toNat_natCast, enc]
  split
  · rfl
  · split
    · rfl
    · split <;> rfl
theorem enc_length (r : Nat) : 1 ≤ (enc r).length ∧ (enc r).length ≤ 4 := by
  unfold enc
  repeat' split
  all_goals simp
theorem get_getD (s : ByteArray) (i : Nat) : s.get! i = s.data.toList.getD i 0 := by
  obtain ⟨⟨l⟩⟩ := s
  simp [ByteArray.get!, List.getD_eq_getElem?_getD]
  rfl
theorem decode_list (s : ByteArray) (i : Nat) : Utf8.decode s i = decodeN (s.data.toList.length - i) (s.data.toList.getD i 0).toNat (s.data.toList.getD (i + 1) 0).toNat (s.data.toList.getD (i + 2) 0).toNat (s.data.toList.getD (i + 3) 0).toNat := by
  rw [decode_at, get_getD, get_getD, get_getD, get_getD]
  rfl

theorem toNat_ofNat (n : Nat) (h : n < 256) : (UInt8.ofNat n).toNat = n := by
  simp [UInt8.toNat_ofNat']; omega

set_option maxHeartbeats 2000000 in
/-- A rune's bytes, ahead of whatever, are read as that rune. -/
theorem decode_enc (a b : List UInt8) (r : Nat) (h : okR r) : Utf8.decode ⟨(a ++ enc r ++ b).toArray⟩ a.length = (r, (enc r).length) := by
  rw [decode_list]
  have hg : ∀ i, ((a ++ enc r ++ b).getD (a.length + i) 0) = (enc r ++ b).getD i 0 := fun i => by
    rw [List.append_assoc, List.getD_eq_getElem?_getD, List.getD_eq_getElem?_getD, List.getElem?_append_right (by omega)]
    congr 2; omega
  have hg0 := hg 0
  rw [Nat.add_zero] at hg0
  show decodeN ((a ++ enc r ++ b).length - a.length) ((a ++ enc r ++ b).getD a.length 0).toNat ((a ++ enc r ++ b).getD (a.length + 1) 0).toNat ((a ++ enc r ++ b).getD (a.length + 2) 0).toNat ((a ++ enc r ++ b).getD (a.length + 3) 0).toNat = _
  rw [hg0, hg, hg, hg]
  have hn : (a ++ enc r ++ b).length - a.length = (enc r).length + b.length := by rw [List.length_append, List.length_append]; omega
  rw [hn]
  unfold okR at h
  unfold enc
  by_cases h1 : r < 128
  · rw [if_pos h1]
    simp only [List.cons_append, List.nil_append, List.getD_cons_zero, List.length_cons, List.length_nil]
    rw [toNat_ofNat r (by omega)]
    unfold decodeN
    rw [if_pos h1]
  · rw [if_neg h1]
    by_cases h2 : r < 2048
    · rw [if_pos h2]
      simp only [List.cons_append, List.nil_append, List.getD_cons_zero, List.getD_cons_succ, List.length_cons, List.length_nil]
      rw [toNat_ofNat (192 + r / 64) (by omega), toNat_ofNat (128 + r % 64) (by omega)]
      unfold decodeN
      rw [if_neg (by omega), if_pos ⟨by omega, by omega, by omega⟩, if_pos (by omega)]
      apply Prod.ext <;> simp only <;> omega
    · rw [if_neg h2]
      by_cases h3 : r < 65536
      · rw [if_pos h3]
        simp only [List.cons_append, List.nil_append, List.getD_cons_zero, List.getD_cons_succ, List.length_cons, List.length_nil]
        rw [toNat_ofNat (224 + r / 4096) (by omega), toNat_ofNat (128 + r / 64 % 64) (by omega), toNat_ofNat (128 + r % 64) (by omega)]
        unfold decodeN
        rw [if_neg (by omega), if_neg (by omega), if_pos ⟨by omega, ⟨by omega, by omega⟩, by omega, by omega⟩, if_pos (by omega)]
        apply Prod.ext <;> simp only <;> omega
      · rw [if_neg h3]
        simp only [List.cons_append, List.nil_append, List.getD_cons_zero, List.getD_cons_succ, List.length_cons, List.length_nil]
        rw [toNat_ofNat (240 + r / 262144) (by omega), toNat_ofNat (128 + r / 4096 % 64) (by omega), toNat_ofNat (128 + r / 64 % 64) (by omega), toNat_ofNat (128 + r % 64) (by omega)]
        unfold decodeN
        rw [if_neg (by omega), if_neg (by omega), if_neg (by omega), if_pos ⟨by omega, ⟨by omega, by omega⟩, ⟨by omega, by omega⟩, by omega, by omega⟩, if_pos (by omega)]
        apply Prod.ext <;> simp only <;> omega

/-- Every rune that is read can be borne. -/
theorem decode_ok (s : ByteArray) (p : Nat) : okR (Utf8.decode s p).1 := by
  rw [decode_list]
  have h0 := (s.data.toList.getD p 0).toNat_lt
  have h1 := (s.data.toList.getD (p + 1) 0).toNat_lt
  have h2 := (s.data.toList.getD (p + 2) 0).toNat_lt
  have h3 := (s.data.toList.getD (p + 3) 0).toNat_lt
  generalize (s.data.toList.getD p 0).toNat = b0 at *
  generalize (s.data.toList.getD (p + 1) 0).toNat = b1 at *
  generalize (s.data.toList.getD (p + 2) 0).toNat = b2 at *
  generalize (s.data.toList.getD (p + 3) 0).toNat = b3 at *
  unfold decodeN okR
  repeat' split
  all_goals (simp only; omega)
theorem take_drop_one (l : List UInt8) (p : Nat) (h : p < l.length) (k : Nat) : (l.drop p).take (k + 1) = l.getD p 0 :: (l.drop (p + 1)).take k := by
  rw [List.drop_eq_getElem_cons h, List.take_succ_cons]
  simp [List.getD_eq_getElem?_getD, List.getElem?_eq_getElem h]
theorem take2 (l : List UInt8) (p : Nat) (h : p + 1 < l.length) : (l.drop p).take 2 = [l.getD p 0, l.getD (p + 1) 0] := by
  rw [take_drop_one l p (by omega) 1, take_drop_one l (p + 1) h 0, List.take_zero]
theorem take3 (l : List UInt8) (p : Nat) (h : p + 2 < l.length) : (l.drop p).take 3 = [l.getD p 0, l.getD (p + 1) 0, l.getD (p + 2) 0] := by
  rw [take_drop_one l p (by omega) 2, take2 l (p + 1) h]
theorem take4 (l : List UInt8) (p : Nat) (h : p + 3 < l.length) : (l.drop p).take 4 = [l.getD p 0, l.getD (p + 1) 0, l.getD (p + 2) 0, l.getD (p + 3) 0] := by
  rw [take_drop_one l p (by omega) 3, take3 l (p + 1) h]
theorem ofNat_eq (x : UInt8) (n : Nat) (h : n = x.toNat) : UInt8.ofNat n = x := by
  subst h; simp

set_option maxHeartbeats 2000000 in
/-- A rune that is read, and is not U+FFFD, has these bytes; they lie in the text. -/
theorem enc_decode (s : ByteArray) (p : Nat) (hp : p < s.size) (h : (Utf8.decode s p).1 ≠ 65533) :
    p + (Utf8.decode s p).2 ≤ s.size ∧ enc (Utf8.decode s p).1 = (s.data.toList.drop p).take (Utf8.decode s p).2 := by
  have hs : s.size = s.data.toList.length := by simp
  rw [hs] at hp ⊢
  rw [decode_list] at h ⊢
  have h0 := (s.data.toList.getD p 0).toNat_lt
  have h1 := (s.data.toList.getD (p + 1) 0).toNat_lt
  have h2 := (s.data.toList.getD (p + 2) 0).toNat_lt
  have h3 := (s.data.toList.getD (p + 3) 0).toNat_lt
  generalize s.data.toList = l at *
  revert h
  unfold decodeN
  repeat' split
  all_goals intro h
  all_goals simp only [ne_eq, not_true_eq_false] at h
  · refine ⟨by omega, ?_⟩
    unfold enc
    rw [if_pos (by simp only; omega), take_drop_one l p hp 0, List.take_zero]
    simp
  · refine ⟨by simp only; omega, ?_⟩
    unfold enc
    rw [if_neg (by simp only; omega), if_pos (by simp only; omega), take2 l p (by omega)]
    congr 1
    · exact ofNat_eq _ _ (by simp only; omega)
    · congr 1
      exact ofNat_eq _ _ (by simp only; omega)
  · refine ⟨by simp only; omega, ?_⟩
    unfold enc
    rw [if_neg (by simp only; omega), if_neg (by simp only; omega), if_pos (by simp only; omega), take3 l p (by omega)]
    congr 1
    · exact ofNat_eq _ _ (by simp only; omega)
    · congr 1
      · exact ofNat_eq _ _ (by simp only; omega)
      · congr 1
        exact ofNat_eq _ _ (by simp only; omega)
  · refine ⟨by simp only; omega, ?_⟩
    unfold enc
    rw [if_neg (by simp only; omega), if_neg (by simp only; omega), if_neg (by simp only; omega), take4 l p (by omega)]
    congr 1
    · exact ofNat_eq _ _ (by simp only; omega)
    · congr 1
      · exact ofNat_eq _ _ (by simp only; omega)
      · congr 1
        · exact ofNat_eq _ _ (by simp only; omega)
        · congr 1
          exact ofNat_eq _ _ (by simp only; omega)
end Go.Proofs.YtnelfokfgnikfaaDoor.nam
end
section
namespace Go.Proofs.YtnelfokfgnikfaaDoor.nam

/-- The text of runes. -/
def textOf (l : List Nat) : ByteArray := ⟨(l.flatMap enc).toArray⟩
theorem textOf_toList (l : List Nat) : (textOf l).data.toList = l.flatMap enc := by simp [textOf]
theorem textOf_size (l : List Nat) : (textOf l).size = (l.flatMap enc).length := by
  show (textOf l).data.size = _
  rw [← Array.length_toList, textOf_toList]
theorem flat_length (l : List Nat) : l.length ≤ (l.flatMap enc).length ∧ (l.flatMap enc).length ≤ 4 * l.length := by
  induction l with
  | nil => simp
  | cons r t ih =>
    have := enc_length r
    simp only [List.flatMap_cons, List.length_append, List.length_cons]
    omega
theorem byteArray_ext {a b : ByteArray} (h : a.data.toList = b.data.toList) : a = b := by
  obtain ⟨⟨a⟩⟩ := a
  obtain ⟨⟨b⟩⟩ := b
  simp at h
  rw [h]
theorem append_toList (a b : ByteArray) : (a ++ b).data.toList = a.data.toList ++ b.data.toList := by simp
theorem extract_toList (s : ByteArray) (i j : Nat) : (s.extract i j).data.toList = (s.data.toList.take j).drop i := by
  simp [List.drop_take]
theorem extract_toList' (s : ByteArray) (i w : Nat) : (s.extract i (i + w)).data.toList = (s.data.toList.drop i).take w := by
  rw [extract_toList, List.drop_take]
  congr 1; omega

theorem decode_step_ok (s : ByteArray) : ∀ (f pos : Nat), ∀ x ∈ runesFrom s f pos, okR x.2
  | 0, _, x, h => by simp [runesFrom] at h
  | f + 1, pos, x, h => by
    simp only [runesFrom] at h
    split at h
    · rcases List.mem_cons.1 h with rfl | h
      · exact decode_ok s pos
      · exact decode_step_ok s f _ x h
    · simp at h
theorem rn_ok (s : ByteArray) (pos : Nat) : ∀ r ∈ rn s pos, okR r := by
  intro r hr
  obtain ⟨x, hx, rfl⟩ := List.mem_map.1 hr
  exact decode_step_ok s _ _ x hx

/-- A text without U+FFFD is the text of its runes. -/
theorem drop_rn (s : ByteArray) : ∀ (f pos : Nat), s.size ≤ pos + f → pos ≤ s.size → (∀ r ∈ rn s pos, r ≠ 65533) → s.data.toList.drop pos = (rn s pos).flatMap enc
  | 0, pos, h, hp, _ => by
    rw [rn_end s pos (by omega), List.drop_eq_nil_of_le (by simp; omega)]
    rfl
  | f + 1, pos, h, hp, hr => by
    by_cases hlt : pos < s.size
    · rw [rn_step s pos hlt] at hr ⊢
      have hw := width_pos s pos hlt
      obtain ⟨h1, h2⟩ := enc_decode s pos hlt (hr _ (List.mem_cons_self))
      rw [List.flatMap_cons, h2, ← drop_rn s f (pos + (Utf8.decode s pos).2) (by omega) h1 (fun r hm => hr r (List.mem_cons_of_mem _ hm)), ← List.drop_drop, List.take_append_drop]
    · rw [rn_end s pos hlt, List.drop_eq_nil_of_le (by simp; omega)]
      rfl
theorem textOf_rn (s : ByteArray) (h : ∀ r ∈ rn s 0, r ≠ 65533) : textOf (rn s 0) = s := by
  apply byteArray_ext
  rw [textOf_toList, ← drop_rn s s.size 0 (by omega) (by omega) h, List.drop_zero]
/-- The runes of a text of runes. -/
theorem rn_flat (a : List UInt8) (l : List Nat) (h : ∀ r ∈ l, okR r) : rn ⟨(a ++ l.flatMap enc).toArray⟩ a.length = l := by
  induction l generalizing a with
  | nil =>
    rw [rn_end]
    show ¬ a.length < (a ++ []).toArray.size
    simp
  | cons r t ih =>
    have hr := h r (List.mem_cons_self)
    have hl := enc_length r
    have hsz : a.length < (⟨(a ++ (r :: t).flatMap enc).toArray⟩ : ByteArray).size := by
      show a.length < (a ++ (r :: t).flatMap enc).toArray.size
      simp only [List.flatMap_cons, List.size_toArray, List.length_append]; omega
    have hd := decode_enc a (t.flatMap enc) r hr
    have e : a ++ (r :: t).flatMap enc = (a ++ enc r) ++ t.flatMap enc := by simp
    rw [rn_step _ _ hsz]
    rw [e, hd]
    simp only
    have := ih (a ++ enc r) (fun x hx => h x (List.mem_cons_of_mem _ hx))
    rw [List.length_append] at this
    rw [this]
theorem rn_textOf (l : List Nat) (h : ∀ r ∈ l, okR r) : rn (textOf l) 0 = l := by
  have := rn_flat [] l h
  simpa [textOf] using this
theorem nameB_textOf (l : List Nat) (h : ∀ r ∈ l, okR r) : nameB (textOf l) = nameFrom 0 l := by unfold nameB; rw [rn_textOf l h]

/-- Whether a rune may stand in a name. -/
def nruneB (r : Nat) : Bool := letB r || digB r || decide (r = 45)
def nameL (l : List Nat) : Bool := decide (1 ≤ l.length ∧ l.length ≤ 24) && (letB (l.headD 0) && l.all nruneB)
theorem nameFrom_on (l : List Nat) : ∀ m, 0 < m → m ≤ 24 → nameFrom m l = (decide (m + l.length ≤ 24) && l.all nruneB) := by
  induction l with
  | nil => intro m h0 h1; simp [nameFrom, h0, h1]
  | cons r t ih =>
    intro m h0 h1
    simp only [nameFrom]
    by_cases hb : letB r = false ∧ (m = 0 ∨ digB r = false ∧ r ≠ 45)
    · rw [if_pos hb]
      have : nruneB r = false := by
        obtain ⟨h2, h3⟩ := hb
        rcases h3 with h3 | ⟨h3, h4⟩
        · omega
        · simp [nruneB, h2, h3, h4]
      simp [this]
    · rw [if_neg hb]
      have hn : nruneB r = true := by
        unfold nruneB
        by_cases a1 : letB r = true
        · simp [a1]
        · by_cases a2 : digB r = true
          · simp [a2]
          · by_cases a3 : r = 45
            · simp [a3]
            · exact absurd ⟨by simpa using a1, Or.inr ⟨by simpa using a2, a3⟩⟩ hb
      by_cases h24 : 24 < m + 1
      · rw [if_pos h24, decide_eq_false (by simp only [List.length_cons]; omega)]
        rfl
      · rw [if_neg h24, ih (m + 1) (by omega) (by omega)]
        simp only [List.all_cons, hn, Bool.true_and, List.length_cons]
        congr 1
        rw [Bool.eq_iff_iff]; simp; omega
theorem nameFrom_eq (l : List Nat) : nameFrom 0 l = nameL l := by
  cases l with
  | nil => rfl
  | cons r t =>
    unfold nameL
    simp only [nameFrom]
    by_cases hl : letB r = true
    · rw [if_neg (by simp [hl]), if_neg (by omega), nameFrom_on t 1 (by omega) (by omega)]
      have hn : nruneB r = true := by simp [nruneB, hl]
      simp only [List.headD_cons, hl, Bool.true_and, List.all_cons, hn, List.length_cons]
      congr 1
      rw [Bool.eq_iff_iff]; simp; omega
    · rw [if_pos ⟨by simpa using hl, by simp⟩]
      simp only [List.headD_cons, Bool.not_eq_true] at hl ⊢
      simp [hl]
theorem nameB_eq (s : ByteArray) : nameB s = nameL (rn s 0) := nameFrom_eq _
theorem nrune_facts {r : Nat} (h : nruneB r = true) : r ≠ 65533 ∧ mayB r = true ∧ blkB r = false := by
  unfold nruneB letB digB at h
  unfold mayB blkB
  simp only [Bool.or_eq_true, decide_eq_true_eq] at h
  refine ⟨by omega, by simp; omega, by simp; omega⟩
theorem name_facts {s : ByteArray} (h : nameB s = true) : 1 ≤ (rn s 0).length ∧ (rn s 0).length ≤ 24 ∧ (∀ r ∈ rn s 0, nruneB r = true) ∧ textOf (rn s 0) = s ∧ s.size ≤ 96 := by
  rw [nameB_eq] at h
  unfold nameL at h
  simp only [Bool.and_eq_true, decide_eq_true_eq, List.all_eq_true] at h
  obtain ⟨⟨h1, h2⟩, _, h3⟩ := h
  have ht : textOf (rn s 0) = s := textOf_rn s (fun r hr => (nrune_facts (h3 r hr)).1)
  refine ⟨h1, h2, h3, ht, ?_⟩
  have := flat_length (rn s 0)
  rw [← textOf_size, ht] at this
  omega

/-- What Turned answers. -/
def turnedO (s : ByteArray) : ByteArray × Int :=
  if nameB s then (if nameB (textOf (rn s 0).reverse) then (textOf (rn s 0).reverse, 0) else (s, 0)) else (⟨#[]⟩, 2)
theorem turned_bad {s : ByteArray} (h : nameB s = false) : turnedO s = (⟨#[]⟩, 2) := by unfold turnedO; rw [h]; rfl
theorem turned_self {s : ByteArray} (h : nameB s = true) (h2 : nameB (textOf (rn s 0).reverse) = false) : turnedO s = (s, 0) := by unfold turnedO; rw [h, h2]; rfl
theorem turned_other {s : ByteArray} (h : nameB s = true) (h2 : nameB (textOf (rn s 0).reverse) = true) : turnedO s = (textOf (rn s 0).reverse, 0) := by unfold turnedO; rw [h, h2]; rfl
theorem rn_turned (s : ByteArray) : rn (textOf (rn s 0).reverse) 0 = (rn s 0).reverse := rn_textOf _ (fun r hr => rn_ok s 0 r (List.mem_reverse.1 hr))
/-- Turned twice a name is itself again; it has as many runes. -/
theorem turned_twice {s : ByteArray} (h : nameB s = true) : (turnedO s).2 = 0 ∧ nameB (turnedO s).1 = true ∧ turnedO (turnedO s).1 = (s, 0) ∧ (rn (turnedO s).1 0).length = (rn s 0).length := by
  obtain ⟨_, _, _, ht, _⟩ := name_facts h
  cases h2 : nameB (textOf (rn s 0).reverse) with
  | false => rw [turned_self h h2]; exact ⟨rfl, h, turned_self h h2, rfl⟩
  | true =>
    rw [turned_other h h2]
    refine ⟨rfl, h2, ?_, by rw [rn_turned]; simp⟩
    have hr : textOf (rn (textOf (rn s 0).reverse) 0).reverse = s := by rw [rn_turned, List.reverse_reverse, ht]
    rw [turned_other h2 (by rw [hr]; exact h), hr]
end Go.Proofs.YtnelfokfgnikfaaDoor.nam
end
section
namespace Go.Proofs.YtnelfokfgnikfaaDoor.nam
open Go.RowKit

theorem ret_bool {a b : Bool} (h : a = b) : Ending.returned (.bool a) = .returned (.bool b) := by rw [h]

theorem letter_any (n : Nat) (w : World) : Calls Tryd.prog 85 #[.int .i32 n] w fun e w' => e = .returned (.bool (letB n)) ∧ w = w' := by
  go_enter Tryd.func85, Tryd.ntmps85
  go_wp2
  all_goals (go_ret; exact ⟨ret_bool (by unfold letB; rw [Bool.eq_iff_iff]; simp; omega), rfl⟩)
theorem digit_any (n : Nat) (w : World) : Calls Tryd.prog 86 #[.int .i32 n] w fun e w' => e = .returned (.bool (digB n)) ∧ w = w' := by
  go_enter Tryd.func86, Tryd.ntmps86
  go_wp2
  all_goals (go_ret; exact ⟨ret_bool (by unfold digB; rw [Bool.eq_iff_iff]; simp; omega), rfl⟩)
theorem refLetter_any (n : Nat) (w : World) : Calls Tryd.prog 83 #[.int .i32 n] w fun e w' => e = .returned (.bool (letB n)) ∧ w = w' := by
  go_enter Tryd.func83, Tryd.ntmps83
  go_wp2
  all_goals (go_ret; exact ⟨ret_bool (by unfold letB; rw [Bool.eq_iff_iff]; simp; omega), rfl⟩)
end Go.Proofs.YtnelfokfgnikfaaDoor.nam
end
section
namespace Go.Proofs.YtnelfokfgnikfaaDoor.nam
open Go.RowKit

theorem below_iter (w : World) (s : ByteArray) (pos : Nat) : Below w.heap.size w (w.iter s pos) := (Below.refl _ w).alloc (Nat.le_refl _) _
theorem ret_int {k : IntKind} {a b : Int} (h : a = b) : Ending.returned (.int k a) = .returned (.int k b) := by rw [h]

set_option maxRecDepth 1000000 in
theorem name_any (s : ByteArray) (w : World) :
    Calls Tryd.prog 74 #[.string s] w fun e w' => e = .returned (.bool (nameB s)) ∧ Below w.heap.size w w' := by
  go_enter Tryd.func74, Tryd.ntmps74
  go_wp2
  go_loopw [3] (fun n w' => ∃ pos many : Nat, w' = w.iter s pos ∧ n = .int .i64 many ∧ many ≤ 24 ∧ nameFrom many (rn s pos) = nameB s) (fun _ w' => s.size - w'.iterPos w.heap.size)
  case atStart => exact ⟨0, 0, rfl, rfl, by omega, rfl⟩
  case round =>
    obtain ⟨pos, many, rfl, rfl, hm, hc⟩ := hrel
    by_cases hp : pos < s.size
    · have hnx : ∀ ty, (Instr.next (.pointer (some ⟨w.heap.size, 0, none⟩)) true ty).run Tryd.prog (w.iter s pos) = _ := fun ty => run_next_any w s pos ty hp
      have hwd := width_pos s pos hp
      rw [rn_step s pos hp] at hc
      simp only [nameFrom] at hc
      have HC : Hid _ := hc
      clear hc
      go_wp2_with (first | (go_at_call 85; refine (letter_any _ _).mono ?_; rintro e w' ⟨rfl, rfl⟩) | (go_at_call 86; refine (digit_any _ _).mono ?_; rintro e w' ⟨rfl, rfl⟩))
      all_goals first
        | (go_roundw
           case rel => exact ⟨pos + (Utf8.decode s pos).2, many + 1, rfl, by go_num, by omega, by rw [← HC.out, if_neg (by clear hnx HC; first | (simp_all; done) | (simp_all; omega)), if_neg (by omega)]⟩
           case measure => simp; omega)
        | (go_ret; exact ⟨ret_bool (by rw [← HC.out]; split; rfl; split; rfl; exfalso; clear hnx HC; first | omega | (simp_all; done) | (simp_all; omega)), below_iter _ _ _⟩)
    · have hnx : ∀ ty, (Instr.next (.pointer (some ⟨w.heap.size, 0, none⟩)) true ty).run Tryd.prog (w.iter s pos) = _ := fun ty => run_next_end w s pos ty hp
      rw [rn_end s pos hp] at hc
      simp only [nameFrom] at hc
      have HC : Hid _ := hc
      clear hc
      go_wp2
      go_ret
      exact ⟨ret_bool (by rw [← HC.out]), below_iter w s pos⟩


theorem drop_step {s : ByteArray} {k pos : Nat} (hp : pos < s.size) (h : runesAt s pos = (runesAt s 0).drop k) : (runesAt s 0)[k]? = some (pos, (Utf8.decode s pos).1) ∧ runesAt s (pos + (Utf8.decode s pos).2) = (runesAt s 0).drop (k + 1) := by
  rw [runesAt_step s pos hp] at h
  constructor
  · have := congrArg (·[0]?) h
    simpa using this.symm
  · have := congrArg List.tail h
    simpa using this
theorem name_true {s : ByteArray} (h : nameB s = true) (w : World) : Calls Tryd.prog 74 #[.string s] w fun e w' => e = .returned (.bool true) ∧ Below w.heap.size w w' := by
  have := name_any s w; rwa [h] at this
theorem name_false {s : ByteArray} (h : nameB s = false) (w : World) : Calls Tryd.prog 74 #[.string s] w fun e w' => e = .returned (.bool false) ∧ Below w.heap.size w w' := by
  have := name_any s w; rwa [h] at this
theorem below_on {B : Nat} {w w' w'' : World} (h : Below B w w') (k : Below w'.heap.size w' w'') (hB : B ≤ w'.heap.size) : Below B w w'' := h.trans (k.mono hB)
theorem below_on' {w w' w'' : World} (h : Below w.heap.size w w') (k : Below w'.heap.size w' w'') : Below w.heap.size w w'' := h.trans (k.mono h.size)
end Go.Proofs.YtnelfokfgnikfaaDoor.nam
end
section
namespace Go.Proofs.YtnelfokfgnikfaaDoor.nam
open Go.RowKit

theorem own_below {W W' : World} {B e size n : Nat} {v : Value} {xs : List Value} (h : W.ownsRow B e size v n xs) (hb : Below W.heap.size W W') : W'.ownsRow B e size v n xs :=
  h.kept (row := none) ⟨hb.os, hb.tape, hb.output, hb.size, fun k hk _ => hb.block k hk⟩ (by cases hv : v.ownBlock <;> simp)
theorem own_iterAt {w : World} {B e size n : Nat} {v : Value} {xs : List Value} {k : Nat} {s : ByteArray} {pos : Nat} (h : w.ownsRow B e size v n xs) (hk : w.heap[k]? = some (.stringIter s pos)) (pos' : Nat) : (w.iterAt k s pos').ownsRow B e size v n xs := by
  refine ⟨h.1, ?_⟩
  rcases h.2 with h0 | ⟨g, cap, cur, hv, hb, hg, rest⟩
  · exact .inl h0
  · refine .inr ⟨g, cap, cur, hv, hb, ?_, rest⟩
    rw [Lib.iterAt_other _ _ _ _ _ (fun e => by subst e; rw [hk] at hg; cases hg)]
    exact hg
theorem own_ne_iter {w : World} {B e size n : Nat} {v : Value} {xs : List Value} {k : Nat} {s : ByteArray} {pos : Nat} (h : w.ownsRow B e size v n xs) (hk : w.heap[k]? = some (.stringIter s pos)) : some k ≠ v.ownBlock := by
  rcases h.2 with ⟨rfl, _⟩ | ⟨g, cap, cur, rfl, hb, hg, rest⟩
  · simp [Value.ownBlock]
  · intro e
    simp only [Value.ownBlock, Option.some.injEq] at e
    subst e
    rw [hk] at hg
    cases hg
/-- Two rows of two element types are two rows. -/
theorem own_ne_own {w : World} {B B' e e' size size' n n' : Nat} {v v' : Value} {xs xs' : List Value} (h : w.ownsRow B e size v n xs) (h' : w.ownsRow B' e' size' v' n' xs') (hne : e ≠ e') : v.ownBlock = none ∨ v.ownBlock ≠ v'.ownBlock := by
  rcases h.2 with ⟨rfl, _⟩ | ⟨g, cap, cur, rfl, hb, hg, rest⟩
  · exact .inl rfl
  · rcases h'.2 with ⟨rfl, _⟩ | ⟨g', cap', cur', rfl, hb', hg', rest'⟩
    · exact .inr (by simp [Value.ownBlock])
    · refine .inr (fun e => ?_)
      simp only [Value.ownBlock, Option.some.injEq] at e
      subst e
      rw [hg] at hg'
      cases hg'
      exact hne rfl
/-- How a slice that is owned is read. -/
theorem own_cases {w : World} {B e n : Nat} {v : Value} {xs : List Value} (h : w.ownsRow B e 1 v n xs) :
    (v = .slice none 0 0 ∧ n = 0) ∨ ∃ g cap, v = .slice (some ⟨g, 0, none⟩) n cap ∧ n ≤ cap ∧ cap ≤ maxLen ∧ B ≤ g ∧ g < w.heap.size ∧ ∀ j u, xs[j]? = some u → w.cell? ⟨g, j, none⟩ = some u := by
  rcases h.2 with h0 | ⟨g, cap, cur, rfl, hb, hg, h1, h2, h3, h4⟩
  · exact .inl h0
  · refine .inr ⟨g, cap, rfl, h1, h2, hb, (Array.getElem?_eq_some_iff.1 hg).1, fun j u hj => ?_⟩
    have := h.cells (g := g) rfl j u hj
    have hadd : (⟨g, 0, none⟩ : Addr).add j = ⟨g, j, none⟩ := by unfold Addr.add; split <;> simp_all
    rwa [hadd] at this
theorem cell_one_new (w : World) (x : Value) (t : TypeId) : ∀ j u, [x][j]? = some u → (w.alloc (.cells #[x] t)).cell? ((⟨w.heap.size, 0, none⟩ : Addr).add j) = some u := by
  intro j u hj
  match j, hj with
  | 0, hj => simp at hj; subst hj; simp [Addr.add]
  | (j + 1), hj => simp at hj

theorem info21 : (Tryd.prog.info? 21).map (fun i => (i.zero, i.size, i.bytes)) = some (some (.int .i32 0), 1, 4) := by kernel_rfl
theorem info3 : (Tryd.prog.info? 3).map (fun i => (i.zero, i.size, i.bytes)) = some (some (.int .i64 0), 1, 8) := by kernel_rfl
theorem info9 : (Tryd.prog.info? 9).map (fun i => (i.zero, i.size, i.bytes)) = some (some (.string ⟨#[]⟩), 1, 16) := by kernel_rfl

def runeV (x : Nat × Nat) : Value := .int .i32 x.2
def placeV (x : Nat × Nat) : Value := .int .i64 x.1

theorem own_slice {w : World} {B e n : Nat} {v : Value} {xs : List Value} (h : w.ownsRow B e 1 v n xs) : ∃ a cap, v = .slice a n cap ∧ n ≤ cap ∧ cap ≤ maxLen := by
  rcases own_cases h with ⟨rfl, rfl⟩ | ⟨g, cap, rfl, h1, h2, _⟩
  · exact ⟨none, 0, rfl, Nat.le_refl _, Nat.zero_le _⟩
  · exact ⟨_, cap, rfl, h1, h2⟩

def RunesPost (s : ByteArray) (w : World) (e : Ending) (w' : World) : Prop :=
  ∃ v1 v2, e = .returned (.tuple #[v1, v2]) ∧ w'.ownsRow w.heap.size 21 1 v1 (runesAt s 0).length ((runesAt s 0).map runeV) ∧ w'.ownsRow w.heap.size 3 1 v2 (runesAt s 0).length ((runesAt s 0).map placeV) ∧ Below w.heap.size w w'

/-- What holds at each round's head. -/
def RunesRel (s : ByteArray) (w : World) (u4 u5 : Value) (wr : World) : Prop :=
  ∃ pos k, wr.heap[w.heap.size]? = some (.stringIter s pos) ∧ wr.ownsRow w.heap.size 21 1 u4 k (((runesAt s 0).map runeV).take k) ∧ wr.ownsRow w.heap.size 3 1 u5 k (((runesAt s 0).map placeV).take k) ∧ Below w.heap.size w wr ∧
    runesAt s pos = (runesAt s 0).drop k ∧ k ≤ (runesAt s 0).length

theorem take_map_succ {α β : Type} (l : List α) (f : α → β) (k : Nat) (x : α) (h : l[k]? = some x) : (l.map f).take (k + 1) = (l.map f).take k ++ [f x] := by
  rw [List.take_add_one, List.getElem?_map, h]; rfl

theorem runes_round {s : ByteArray} {w wr w1 w2 : World} {u4 u5 v4 v5 : Value} {pos k : Nat} (hp : pos < s.size)
    (hit : wr.heap[w.heap.size]? = some (.stringIter s pos)) (h4 : wr.ownsRow w.heap.size 21 1 u4 k (((runesAt s 0).map runeV).take k)) (h5 : wr.ownsRow w.heap.size 3 1 u5 k (((runesAt s 0).map placeV).take k))
    (hb : Below w.heap.size w wr) (hd : runesAt s pos = (runesAt s 0).drop k)
    (k4 : w1.ownsRow w.heap.size 21 1 v4 (k + 1) (((runesAt s 0).map runeV).take k ++ [.int .i32 (Utf8.decode s pos).1]))
    (g4 : ((wr.iterAt w.heap.size s (pos + (Utf8.decode s pos).2)).alloc (.cells #[.int .i32 (Utf8.decode s pos).1] 21)).grownBy w1 u4.ownBlock) :
    w1.ownsRow w.heap.size 3 1 u5 k (((runesAt s 0).map placeV).take k) ∧ w.heap.size < w1.heap.size ∧
    ((w1.ownsRow w.heap.size 3 1 u5 k (((runesAt s 0).map placeV).take k)) → w2.ownsRow w.heap.size 3 1 v5 (k + 1) (((runesAt s 0).map placeV).take k ++ [.int .i64 pos]) → (w1.alloc (.cells #[.int .i64 pos] 3)).grownBy w2 u5.ownBlock →
      RunesRel s w v4 v5 w2 ∧ w2.heap[w.heap.size]? = some (.stringIter s (pos + (Utf8.decode s pos).2))) := by
  obtain ⟨e1, e2⟩ := drop_step hp hd
  have hsz : w.heap.size < wr.heap.size := (Array.getElem?_eq_some_iff.1 hit).1
  have hit2 := Lib.iterAt_heap wr w.heap.size s pos (pos + (Utf8.decode s pos).2) hit
  have hsz2 : (wr.iterAt w.heap.size s (pos + (Utf8.decode s pos).2)).heap.size = wr.heap.size := Lib.iterAt_size _ _ _ _
  have h4b := own_iterAt h4 hit (pos + (Utf8.decode s pos).2)
  have h5b := own_iterAt h5 hit (pos + (Utf8.decode s pos).2)
  have hb2 := Lib.below_iterAt hb (k := w.heap.size) (Nat.le_refl _) s (pos + (Utf8.decode s pos).2)
  have hb3 : Below w.heap.size w w1 := (hb2.alloc (by omega) _).grown g4 (by simp; omega) (fun j hj => (h4.lt j hj).1)
  have h5c := h5b.alloc (.cells #[.int .i32 (Utf8.decode s pos).1] 21)
  have h5d := h5c.kept g4 (own_ne_own h5b h4b (by decide))
  have hs1 : w.heap.size < w1.heap.size := by have := g4.size; simp at this; omega
  refine ⟨h5d, hs1, fun _ k5 g5 => ?_⟩
  have hit3 : w1.heap[w.heap.size]? = some (.stringIter s (pos + (Utf8.decode s pos).2)) := by
    rw [g4.block w.heap.size (by simp; omega) (own_ne_iter h4b hit2), Below.heap_alloc _ _ _ (by omega)]
    exact hit2
  have hit4 : w2.heap[w.heap.size]? = some (.stringIter s (pos + (Utf8.decode s pos).2)) := by
    rw [g5.block w.heap.size (by simp; omega) (own_ne_iter h5d hit3), Below.heap_alloc _ _ _ (by omega)]
    exact hit3
  have hb4 : Below w.heap.size w w2 := (hb3.alloc (by omega) _).grown g5 (by simp; omega) (fun j hj => (h5.lt j hj).1)
  have h4e := (k4.alloc (.cells #[.int .i64 pos] 3)).kept g5 (own_ne_own (k4.alloc (.cells #[.int .i64 pos] 3)) (h5d.alloc (.cells #[.int .i64 pos] 3)) (by decide))
  have hlt : k < (runesAt s 0).length := by
    rcases Nat.lt_or_ge k (runesAt s 0).length with h | h
    · exact h
    · rw [List.getElem?_eq_none h] at e1; cases e1
  refine ⟨⟨_, k + 1, hit4, ?_, ?_, hb4, e2, hlt⟩, hit4⟩
  · rw [take_map_succ _ runeV k _ e1]; exact h4e
  · rw [take_map_succ _ placeV k _ e1]; exact k5

set_option maxHeartbeats 800000 in
set_option maxRecDepth 1000000 in
theorem runes_any (s : ByteArray) (w : World) (hs : s.size ≤ 1000000) :
    Calls Tryd.prog 82 #[.string s] w (RunesPost s w) := by
  obtain ⟨i0, hi, hz0, hz1, hz2⟩ := info_parts info21
  obtain ⟨j0, hj, jz0, jz1, jz2⟩ := info_parts info3
  go_enter Tryd.func82, Tryd.ntmps82
  go_wp2
  go_loopw [4, 5] (fun u4 u5 wr => RunesRel s w u4 u5 wr) (fun _ _ wr => s.size - wr.iterPos w.heap.size)
  case atStart => exact ⟨0, 0, World.iter_heap w s 0, (World.ownsRow_nil _ _ _ _), (World.ownsRow_nil _ _ _ _), below_iter w s 0, rfl, Nat.zero_le _⟩
  case round =>
    obtain ⟨pos, k, hit, h4, h5, hb, hd, hk⟩ := hrel
    have hkl := runesAt_length s 0
    have HD := Lib.hid hd; clear hd
    by_cases hp : pos < s.size
    · have hnx : ∀ ty, (Instr.next (.pointer (some ⟨w.heap.size, 0, none⟩)) true ty).run Tryd.prog wr = _ := fun ty => Lib.run_next_any_at wr w.heap.size s pos ty hit hp
      have hwd := width_pos s pos hp
      have h4b := own_iterAt h4 hit (pos + (Utf8.decode s pos).2)
      have hsz : w.heap.size < wr.heap.size := (Array.getElem?_eq_some_iff.1 hit).1
      have HSZ : Hid (∀ o, w.heap.size ≤ ((wr.iterAt w.heap.size s (pos + (Utf8.decode s pos).2)).alloc o).heap.size) := Lib.hid (fun o => by
        rw [World.size_alloc, Lib.iterAt_size]; omega)
      go_wp2_with (at_builtin; refine wpList_append_own _ rfl (.tmp 14) (.tmp 16) 115 rfl w.heap.size 21 i0 (.int .i32 0) 1 4 Tryd.underlying115 hi hz0 hz1 hz2 rfl (by decide) _ _ _ rfl (h4b.alloc _) ⟨_, 0, none⟩ 1 1 [.int .i32 (Utf8.decode s pos).1] rfl rfl (cell_one_new _ _ _) (by simp [Value.oneCell']) (by unfold maxLen; omega) (by omega) (HSZ.out _) ?_)
      intro v4 w1 k4 g4 _
      obtain ⟨h5d, hs1, hround⟩ := runes_round (w2 := w1) (v5 := v4) hp hit h4 h5 hb HD.out k4 g4
      clear hround
      have HS1 : Hid (∀ o, w.heap.size ≤ (w1.alloc o).heap.size) := Lib.hid (fun o => by rw [World.size_alloc]; omega)
      go_wp2_with (at_builtin; refine wpList_append_own _ rfl (.tmp 18) (.tmp 20) 47 rfl w.heap.size 3 j0 (.int .i64 0) 1 8 Tryd.underlying47 hj jz0 jz1 jz2 rfl (by decide) _ _ _ rfl (h5d.alloc _) ⟨_, 0, none⟩ 1 1 [.int .i64 pos] rfl rfl (cell_one_new _ _ _) (by simp [Value.oneCell']) (by unfold maxLen; omega) (by omega) (HS1.out _) ?_)
      intro v5 w2 k5 g5 _
      obtain ⟨_, _, hround⟩ := runes_round (w2 := w2) (v5 := v5) hp hit h4 h5 hb HD.out k4 g4
      obtain ⟨hrel, hit4⟩ := hround h5d k5 g5
      have HR := Lib.hid hrel
      have HI := Lib.hid hit4
      have HT := Lib.hid hit
      clear hrel hit4 hround hit
      go_wp2
      go_roundw
      case rel => exact HR.out
      case measure => simp only [World.iterPos, HI.out, HT.out]; omega
    · have hnx : ∀ ty, (Instr.next (.pointer (some ⟨w.heap.size, 0, none⟩)) true ty).run Tryd.prog wr = _ := fun ty => Lib.run_next_end_at wr w.heap.size s pos ty hit hp
      have hkn : k = (runesAt s 0).length := by
        have h := HD.out
        rw [runesAt_end s pos hp] at h
        have h2 := congrArg List.length h
        simp only [List.length_nil, List.length_drop] at h2
        omega
      subst hkn
      rw [List.take_of_length_le (by simp)] at h4 h5
      go_wp2
      go_ret2
      exact ⟨_, _, rfl, h4, h5, hb⟩
/-- What Runes leaves, ready to be read. -/
theorem runes_read (s : ByteArray) (w : World) (hs : s.size ≤ 1000000) : Calls Tryd.prog 82 #[.string s] w fun e w' =>
    ∃ a1 c1 a2 c2, e = .returned (.tuple #[.slice a1 (runesAt s 0).length c1, .slice a2 (runesAt s 0).length c2]) ∧ Below w.heap.size w w' ∧
      (0 < (runesAt s 0).length → ∃ g1 g2, a1 = some ⟨g1, 0, none⟩ ∧ a2 = some ⟨g2, 0, none⟩ ∧ g1 < w'.heap.size ∧ g2 < w'.heap.size ∧
        (∀ k x, (runesAt s 0)[k]? = some x → w'.cell? ⟨g1, k, none⟩ = some (.int .i32 x.2) ∧ w'.cell? ⟨g2, k, none⟩ = some (.int .i64 x.1))) := by
  refine (runes_any s w hs).mono ?_
  rintro e w' ⟨v1, v2, rfl, h1, h2, hb⟩
  obtain ⟨a1, c1, rfl, _, _⟩ := own_slice h1
  obtain ⟨a2, c2, rfl, _, _⟩ := own_slice h2
  refine ⟨a1, c1, a2, c2, rfl, hb, fun h0 => ?_⟩
  rcases own_cases h1 with ⟨_, h⟩ | ⟨g1, d1, e1, _, _, _, l1, k1⟩
  · omega
  rcases own_cases h2 with ⟨_, h⟩ | ⟨g2, d2, e2, _, _, _, l2, k2⟩
  · omega
  simp only [Value.slice.injEq] at e1 e2
  exact ⟨g1, g2, e1.1, e2.1, l1, l2, fun k x hx => ⟨k1 k _ (by rw [List.getElem?_map, hx]; rfl), k2 k _ (by rw [List.getElem?_map, hx]; rfl)⟩⟩
end Go.Proofs.YtnelfokfgnikfaaDoor.nam
end
section
namespace Go.Proofs.YtnelfokfgnikfaaDoor.nam
open Go.RowKit

theorem rn_get {s : ByteArray} {k : Nat} {x : Nat × Nat} (h : (runesAt s 0)[k]? = some x) : (rn s 0)[k]? = some x.2 := by
  unfold rn; rw [List.getElem?_map, h]; rfl
theorem rn_len (s : ByteArray) : (rn s 0).length = (runesAt s 0).length := by unfold rn; rw [List.length_map]
theorem nameB_no {s : ByteArray} {k r : Nat} (h : (rn s 0)[k]? = some r) (hr : nruneB r = false) : nameB s = false := by
  rw [nameB_eq]
  unfold nameL
  have : (rn s 0).all nruneB = false := by
    rw [List.all_eq_false]
    exact ⟨r, List.mem_of_getElem? h, by simp [hr]⟩
  rw [this]; simp
theorem nameB_head {s : ByteArray} {r : Nat} (h : (rn s 0)[0]? = some r) (hr : letB r = false) : nameB s = false := by
  rw [nameB_eq]
  unfold nameL
  have : (rn s 0).headD 0 = r := by rw [List.headD_eq_head?_getD, List.head?_eq_getElem?, h]; rfl
  rw [this, hr]; simp
theorem nameB_size {s : ByteArray} (h : (rn s 0).length < 1 ∨ 24 < (rn s 0).length) : nameB s = false := by
  rw [nameB_eq]
  unfold nameL
  rw [decide_eq_false (by omega)]; rfl
theorem nameB_yes {s : ByteArray} {r : Nat} (h : (rn s 0)[0]? = some r) (hr : letB r = true) (h1 : 1 ≤ (rn s 0).length) (h2 : (rn s 0).length ≤ 24) (ha : ∀ j x, j < (rn s 0).length → (rn s 0)[j]? = some x → nruneB x = true) : nameB s = true := by
  rw [nameB_eq]
  unfold nameL
  have : (rn s 0).headD 0 = r := by rw [List.headD_eq_head?_getD, List.head?_eq_getElem?, h]; rfl
  rw [this, hr, decide_eq_true ⟨h1, h2⟩]
  simp only [Bool.true_and, List.all_eq_true]
  intro x hx
  obtain ⟨j, hj, rfl⟩ := List.mem_iff_getElem.1 hx
  exact ha j _ hj (List.getElem?_eq_getElem hj)
theorem letter_true {r : Nat} (h : letB r = true) (w : World) : Calls Tryd.prog 83 #[.int .i32 r] w fun e w' => e = .returned (.bool true) ∧ w = w' := by
  have := refLetter_any r w; rwa [h] at this
theorem letter_false {r : Nat} (h : letB r = false) (w : World) : Calls Tryd.prog 83 #[.int .i32 r] w fun e w' => e = .returned (.bool false) ∧ w = w' := by
  have := refLetter_any r w; rwa [h] at this

theorem nrune_let {r : Nat} (h : letB r = true) : nruneB r = true := by unfold nruneB; rw [h]; rfl
theorem nrune_45 {r : Nat} (h : r = 45) : nruneB r = true := by unfold nruneB; simp [h]
theorem nrune_dig {r : Nat} (h : 48 ≤ r) (h' : r ≤ 57) : nruneB r = true := by unfold nruneB digB; simp [h, h']
theorem nrune_no {r : Nat} (hl : letB r = false) (h : ¬ r = 45) (h' : r < 48 ∨ 57 < r) : nruneB r = false := by
  unfold nruneB digB; rw [hl]; simp [h]; omega
theorem all_more {l : List Nat} {k x : Nat} (h : ∀ j y, j < k → l[j]? = some y → nruneB y = true) (hx : l[k]? = some x) (hn : nruneB x = true) : ∀ j y, j < k + 1 → l[j]? = some y → nruneB y = true := by
  intro j y hj hy
  rcases Nat.lt_or_ge j k with h1 | h1
  · exact h j y h1 hy
  · obtain rfl : j = k := by omega
    rw [hx] at hy
    cases hy
    exact hn

set_option maxHeartbeats 1600000 in
set_option maxRecDepth 1000000 in
theorem refName_any (s : ByteArray) (w : World) (hs : s.size ≤ 1000000) : Calls Tryd.prog 69 #[.string s] w fun e w' => e = .returned (.bool (nameB s)) ∧ Below w.heap.size w w' := by
  have hrl := runesAt_length s 0
  have hrn := rn_len s
  by_cases h1 : (runesAt s 0).length < 1
  · have HN := Lib.hid (nameB_size (s := s) (by omega))
    have h1' : ((runesAt s 0).length : Int) < 1 := by omega
    clear hrn h1
    go_enter Tryd.func69, Tryd.ntmps69
    go_wp2_with fail
    refine (runes_read s _ hs).mono ?_
    rintro e w1 ⟨a1, c1, a2, c2, rfl, hb, _⟩
    have HB := Lib.hid hb; clear hb
    go_wp2_with fail
    go_ret
    exact ⟨by rw [HN.out]; rfl, HB.out⟩
  by_cases h2 : 24 < (runesAt s 0).length
  · have HN := Lib.hid (nameB_size (s := s) (by omega))
    have h2' : 24 < ((runesAt s 0).length : Int) := by omega
    clear hrn h1
    go_enter Tryd.func69, Tryd.ntmps69
    go_wp2_with fail
    refine (runes_read s _ hs).mono ?_
    rintro e w1 ⟨a1, c1, a2, c2, rfl, hb, _⟩
    have HB := Lib.hid hb; clear hb
    go_wp2_with fail
    go_ret
    exact ⟨by rw [HN.out]; rfl, HB.out⟩
  have h1' : ¬ ((runesAt s 0).length : Int) < 1 := by omega
  have h2' : ¬ 24 < ((runesAt s 0).length : Int) := by omega
  obtain ⟨x0, hx0⟩ : ∃ x, (runesAt s 0)[0]? = some x := ⟨_, List.getElem?_eq_getElem (by omega)⟩
  have HR := Lib.hid (rn_get hx0)
  have HRN := Lib.hid hrn
  have hpos : 0 < (runesAt s 0).length := by omega
  clear hrn
  cases hl : letB x0.2 with
  | false =>
    have HN := Lib.hid (nameB_head HR.out hl)
    have HL := Lib.hid hl
    have HX := Lib.hid hx0
    clear hl hx0
    go_enter Tryd.func69, Tryd.ntmps69
    go_wp2_with fail
    refine (runes_read s _ hs).mono ?_
    rintro e w1 ⟨a1, c1, a2, c2, rfl, hb, hc⟩
    obtain ⟨g1, g2, rfl, rfl, _, _, hc⟩ := hc hpos
    have HB := Lib.hid hb
    have hc0 := (hc 0 x0 HX.out).1
    clear hc hb
    go_wp2_with fail
    refine (letter_false HL.out _).mono ?_
    rintro e w2 ⟨rfl, rfl⟩
    go_wp2_with fail
    go_ret
    exact ⟨by rw [HN.out]; rfl, HB.out⟩
  | true =>
    have HL := Lib.hid hl
    have HX := Lib.hid hx0
    clear hl hx0
    go_enter Tryd.func69, Tryd.ntmps69
    go_wp2_with fail
    refine (runes_read s _ hs).mono ?_
    rintro e w1 ⟨a1, c1, a2, c2, rfl, hb, hc⟩
    obtain ⟨g1, g2, rfl, rfl, _, _, hc⟩ := hc hpos
    have HB := Lib.hid hb
    have hc0 := (hc 0 x0 HX.out).1
    have HC := Lib.hid hc
    clear hc hb
    go_wp2_with fail
    refine (letter_true HL.out _).mono ?_
    rintro e w2 ⟨rfl, rfl⟩
    clear hc0
    go_wp2_with fail
    go_loop [5] (fun i => ∃ k : Nat, k ≤ (runesAt s 0).length ∧ i = .int .i64 k ∧ Hid (∀ j x, j < k → (rn s 0)[j]? = some x → nruneB x = true)) (fun i => (runesAt s 0).length - (intOf i).toNat)
    case atStart => exact ⟨0, Nat.zero_le _, rfl, Lib.hid (fun j x hj => by omega)⟩
    case round =>
      obtain ⟨k, hk, rfl, HA⟩ := hrel
      by_cases hlt : k < (runesAt s 0).length
      · obtain ⟨x, hx⟩ : ∃ x, (runesAt s 0)[k]? = some x := ⟨_, List.getElem?_eq_getElem hlt⟩
        have hc := (HC.out k x hx).1
        have HK := Lib.hid (rn_get hx)
        clear hx
        cases hl : letB x.2 with
        | true =>
          have HL2 := Lib.hid hl
          go_wp2_with (go_at_call 83; refine (letter_true HL2.out _).mono ?_; rintro e w' ⟨rfl, rfl⟩)
          go_round
          case rel => exact ⟨k + 1, by omega, by go_num, Lib.hid (all_more HA.out HK.out (nrune_let HL2.out))⟩
          case measure => simp [intOf]; omega
        | false =>
          have HL2 := Lib.hid hl
          by_cases h45 : x.2 = 45
          · have hb : ((x.2 : Int) != 45) = false := by simp [h45]
            have h48 : (x.2 : Int) < 48 := by omega
            have HN := Lib.hid (nrune_45 h45); clear h45
            go_wp2_with (go_at_call 83; refine (letter_false HL2.out _).mono ?_; rintro e w' ⟨rfl, rfl⟩)
            go_round
            case rel => exact ⟨k + 1, by omega, by go_num, Lib.hid (all_more HA.out HK.out HN.out)⟩
            case measure => simp [intOf]; omega
          · have hb : ((x.2 : Int) != 45) = true := by simp; omega
            by_cases h48 : x.2 < 48
            · have h48' : (x.2 : Int) < 48 := by omega
              have HN := Lib.hid (nameB_no HK.out (nrune_no HL2.out h45 (Or.inl h48))); clear h45 h48
              go_wp2_with (go_at_call 83; refine (letter_false HL2.out _).mono ?_; rintro e w' ⟨rfl, rfl⟩)
              go_ret
              exact ⟨by rw [HN.out]; rfl, HB.out⟩
            · by_cases h57 : 57 < x.2
              · have h48' : ¬ (x.2 : Int) < 48 := by omega
                have h57' : 57 < (x.2 : Int) := by omega
                have HN := Lib.hid (nameB_no HK.out (nrune_no HL2.out h45 (Or.inr h57))); clear h45 h48 h57
                go_wp2_with (go_at_call 83; refine (letter_false HL2.out _).mono ?_; rintro e w' ⟨rfl, rfl⟩)
                go_ret
                exact ⟨by rw [HN.out]; rfl, HB.out⟩
              · have h48' : ¬ (x.2 : Int) < 48 := by omega
                have h57' : ¬ 57 < (x.2 : Int) := by omega
                have HN := Lib.hid (nrune_dig (r := x.2) (by omega) (by omega)); clear h45 h48 h57
                go_wp2_with (go_at_call 83; refine (letter_false HL2.out _).mono ?_; rintro e w' ⟨rfl, rfl⟩)
                go_round
                case rel => exact ⟨k + 1, by omega, by go_num, Lib.hid (all_more HA.out HK.out HN.out)⟩
                case measure => simp [intOf]; omega
      · obtain rfl : k = (runesAt s 0).length := by omega
        have HY := Lib.hid (nameB_yes HR.out HL.out (by have := HRN.out; omega) (by have := HRN.out; omega) (fun j x hj hx => HA.out j x (by have := HRN.out; omega) hx))
        go_wp2_with fail
        go_ret
        exact ⟨by rw [HY.out]; rfl, HB.out⟩
end Go.Proofs.YtnelfokfgnikfaaDoor.nam
end

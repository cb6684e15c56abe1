/- Plain facts: the runes of a text in parentheses. No program's run in this file. -/
import Derived.Test.YtnnaejkhbccnaaaExPb
import Derived.Lib.Repeat
namespace Go.Proofs.Ytnnaejkhbccnaaa.exp
set_option linter.unusedSimpArgs false
set_option linter.unusedVariables false
open lex nam
open Go.Lib (decodeN decode_at)

def open1 : ByteArray := ⟨#[40]⟩
theorem getD_cons (b : UInt8) (l : List UInt8) (i : Nat) : (b :: l).getD (1 + i) 0 = l.getD i 0 := by
  rw [show 1 + i = i + 1 by omega]; rfl
theorem decode_behind (s : ByteArray) (i : Nat) : Utf8.decode (open1 ++ s) (1 + i) = Utf8.decode s i := by
  rw [decode_list, decode_list, append_toList]
  have e : open1.data.toList = [40] := rfl
  rw [e, List.singleton_append, List.length_cons]
  rw [show s.data.toList.length + 1 - (1 + i) = s.data.toList.length - i by omega]
  rw [show 1 + i + 1 = 1 + (i + 1) by omega, show 1 + i + 2 = 1 + (i + 2) by omega, show 1 + i + 3 = 1 + (i + 3) by omega]
  rw [getD_cons, getD_cons, getD_cons, getD_cons]
theorem rn_behind (s : ByteArray) : ∀ (f i : Nat), s.size ≤ i + f → rn (open1 ++ s) (1 + i) = rn s i
  | 0, i, h => by
    rw [rn_end _ _ (by rw [size_app]; have : open1.size = 1 := rfl; omega), rn_end _ _ (by omega)]
  | f + 1, i, h => by
    have h1 : open1.size = 1 := rfl
    by_cases hi : i < s.size
    · have hw := width_pos s i hi
      rw [rn_step s i hi, rn_step _ _ (by rw [size_app]; omega), decode_behind, show 1 + i + (Utf8.decode s i).2 = 1 + (i + (Utf8.decode s i).2) by omega, rn_behind s f _ (by omega)]
    · rw [rn_end _ _ (by rw [size_app]; omega), rn_end _ _ (by omega)]
theorem rn_open1 (s : ByteArray) : rn (open1 ++ s) 0 = 40 :: rn s 0 := by
  have h1 : open1.size = 1 := rfl
  have hd : Utf8.decode (open1 ++ s) 0 = (40, 1) := by
    rw [decode_list, append_toList]
    have e : open1.data.toList = [40] := rfl
    rw [e, List.singleton_append]
    unfold decodeN
    rw [if_pos (by simp)]
    simp
  rw [rn_step _ _ (by rw [size_app]; omega), hd, show (0 + (40, 1).2 : Nat) = 1 + 0 from rfl, rn_behind s s.size 0 (by omega)]
theorem rn_opens : ∀ (n : Nat) (a s : ByteArray), a.data.toList = List.replicate n 40 → rn (a ++ s) 0 = List.replicate n 40 ++ rn s 0
  | 0, a, s, h => by
    have : a ++ s = s := byteArray_ext (by rw [append_toList, h]; rfl)
    rw [this]; rfl
  | n + 1, a, s, h => by
    have : a ++ s = open1 ++ (⟨(List.replicate n (40 : UInt8)).toArray⟩ ++ s) := byteArray_ext (by rw [append_toList, append_toList, append_toList, h]; rfl)
    rw [this, rn_open1, rn_opens n _ s rfl, List.replicate_succ]
    rfl
theorem flat_closes (n : Nat) : (List.replicate n 41).flatMap enc = List.replicate n (41 : UInt8) := by
  induction n with
  | zero => rfl
  | succ n ih => rw [List.replicate_succ, List.flatMap_cons, ih, List.replicate_succ]; rfl
theorem rn_closes (n : Nat) (s b : ByteArray) (h : b.data.toList = List.replicate n 41) : rn (s ++ b) 0 = rn s 0 ++ List.replicate n 41 := by
  rw [rn_app s b (by rw [h]; intro x hx; rw [List.eq_of_mem_replicate hx]; decide) s.size 0 (by omega) (by omega)]
  congr 1
  have e := len_size s
  have h1 := rn_flat s.data.toList (List.replicate n 41) (by intro r hr; rw [List.eq_of_mem_replicate hr]; unfold okR; omega)
  rw [flat_closes] at h1
  have h2 : (⟨(s.data.toList ++ List.replicate n (41 : UInt8)).toArray⟩ : ByteArray) = s ++ b := by
    apply byteArray_ext
    rw [append_toList, h]
  rw [h2, e] at h1
  exact h1
theorem repeat_one (b : UInt8) : ∀ n, Lib.repeatL [b] n = List.replicate n b
  | 0 => rfl
  | n + 1 => by rw [Lib.repeatL, repeat_one b n, List.replicate_succ]; rfl
theorem rn_within (s a b : ByteArray) (n : Nat) (ha : a.data.toList = List.replicate n 40) (hb : b.data.toList = List.replicate n 41) : rn (a ++ s ++ b) 0 = List.replicate n 40 ++ (rn s 0 ++ List.replicate n 41) := by
  rw [rn_closes n _ b hb, rn_opens n a s ha, List.append_assoc]
theorem within_zero (s a b : ByteArray) (ha : a.data.toList = []) (hb : b.data.toList = []) : a ++ s ++ b = s := byteArray_ext (by rw [append_toList, append_toList, ha, hb]; simp)
end Go.Proofs.Ytnnaejkhbccnaaa.exp

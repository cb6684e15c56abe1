/- Plain facts on a text that goes on with a blank and a rune that begins no token: no program's run in this file. -/
import Derived.Test.YtnnaejkhbccnaaaLxP
namespace Go.Proofs.Ytnnaejkhbccnaaa.lex
set_option linter.unusedSimpArgs false
set_option linter.unusedVariables false
open nam
open Go.Lib (decodeN decode_at)

theorem decodeN_ext {n m b0 b1 b2 b3 c1 c2 c3 : Nat} (h0 : 0 < n) (hm : n ≤ m) (h1 : 1 < n → c1 = b1) (h1' : ¬ 1 < n → c1 < 128) (h2 : 2 < n → c2 = b2) (h2' : ¬ 2 < n → c2 < 128) (h3 : 3 < n → c3 = b3) (h3' : ¬ 3 < n → c3 < 128) :
    decodeN m b0 c1 c2 c3 = decodeN n b0 b1 b2 b3 := by
  have e1 : (1 < m ∧ c1 / 64 = 2) = (1 < n ∧ b1 / 64 = 2) := by
    by_cases h : 1 < n
    · rw [h1 h]; exact propext ⟨fun k => ⟨h, k.2⟩, fun k => ⟨by omega, k.2⟩⟩
    · have := h1' h; exact propext ⟨fun k => by omega, fun k => by omega⟩
  have e2 : (2 < m ∧ c2 / 64 = 2) = (2 < n ∧ b2 / 64 = 2) := by
    by_cases h : 2 < n
    · rw [h2 h]; exact propext ⟨fun k => ⟨h, k.2⟩, fun k => ⟨by omega, k.2⟩⟩
    · have := h2' h; exact propext ⟨fun k => by omega, fun k => by omega⟩
  have e3 : (3 < m ∧ c3 / 64 = 2) = (3 < n ∧ b3 / 64 = 2) := by
    by_cases h : 3 < n
    · rw [h3 h]; exact propext ⟨fun k => ⟨h, k.2⟩, fun k => ⟨by omega, k.2⟩⟩
    · have := h3' h; exact propext ⟨fun k => by omega, fun k => by omega⟩
  unfold decodeN
  simp only [e1, e2, e3]
  by_cases h : 1 < n
  · rw [h1 h]
    by_cases k : 2 < n
    · rw [h2 k]
      by_cases l : 3 < n
      · rw [h3 l]
      · simp only [l, false_and, and_false, if_false]
    · simp only [k, show ¬ 3 < n by omega, false_and, and_false, if_false]
  · simp only [h, show ¬ 2 < n by omega, show ¬ 3 < n by omega, false_and, and_false, if_false]
theorem decodeN_width (n b0 b1 b2 b3 : Nat) (h : 0 < n) : (decodeN n b0 b1 b2 b3).2 ≤ n := by
  unfold decodeN
  repeat' split
  all_goals (simp only; omega)
theorem len_size (s : ByteArray) : s.data.toList.length = s.size := Array.length_toList
theorem decode_fits (s : ByteArray) (i : Nat) (h : i < s.size) : i + (Utf8.decode s i).2 ≤ s.size := by
  rw [decode_list]
  have := decodeN_width (s.data.toList.length - i) (s.data.toList.getD i 0).toNat (s.data.toList.getD (i + 1) 0).toNat (s.data.toList.getD (i + 2) 0).toNat (s.data.toList.getD (i + 3) 0).toNat (by have e := len_size s; omega)
  have e := len_size s
  omega
/-- Bytes of ASCII behind a text leave its runes as they are. -/
theorem decode_app (s t : ByteArray) (ht : ∀ x ∈ t.data.toList, x.toNat < 128) (i : Nat) (h : i < s.size) : Utf8.decode (s ++ t) i = Utf8.decode s i := by
  rw [decode_list, decode_list]
  have e := len_size s
  have ea : (s ++ t).data.toList = s.data.toList ++ t.data.toList := append_toList s t
  rw [ea]
  have low : ∀ j, s.data.toList.length ≤ j → ((s.data.toList ++ t.data.toList).getD j 0).toNat < 128 := fun j hj => by
    rw [List.getD_eq_getElem?_getD, List.getElem?_append_right hj]
    cases hx : t.data.toList[j - s.data.toList.length]? with
    | none => simp
    | some x => exact ht x (List.mem_of_getElem? hx)
  have same : ∀ j, j < s.data.toList.length → (s.data.toList ++ t.data.toList).getD j 0 = s.data.toList.getD j 0 := fun j hj => by
    rw [List.getD_eq_getElem?_getD, List.getElem?_append_left hj, List.getD_eq_getElem?_getD]
  rw [same i (by omega)]
  refine decodeN_ext (by omega) (by rw [List.length_append]; omega) ?_ ?_ ?_ ?_ ?_ ?_
  · intro k; rw [same (i + 1) (by omega)]
  · intro k; exact low _ (by omega)
  · intro k; rw [same (i + 2) (by omega)]
  · intro k; exact low _ (by omega)
  · intro k; rw [same (i + 3) (by omega)]
  · intro k; exact low _ (by omega)
theorem size_app (s t : ByteArray) : (s ++ t).size = s.size + t.size := by simp
theorem rn_app (s t : ByteArray) (ht : ∀ x ∈ t.data.toList, x.toNat < 128) : ∀ (f pos : Nat), s.size ≤ pos + f → pos ≤ s.size → rn (s ++ t) pos = rn s pos ++ rn (s ++ t) s.size
  | 0, pos, h1, h2 => by
    obtain rfl : pos = s.size := by omega
    rw [rn_end s s.size (by omega)]; rfl
  | f + 1, pos, h1, h2 => by
    by_cases h : pos < s.size
    · have hf := decode_fits s pos h
      have hw := width_pos s pos h
      rw [rn_step s pos h, rn_step (s ++ t) pos (by rw [size_app]; omega), decode_app s t ht pos h, rn_app s t ht f _ (by omega) hf]
      rfl
    · obtain rfl : pos = s.size := by omega
      rw [rn_end s s.size (by omega)]; rfl
def tail2 : ByteArray := ⟨#[32, 36]⟩
theorem rn_tail2 (s : ByteArray) : rn (s ++ tail2) 0 = rn s 0 ++ [32, 36] := by
  have ht : ∀ x ∈ tail2.data.toList, x.toNat < 128 := by decide
  rw [rn_app s tail2 ht s.size 0 (by omega) (by omega)]
  congr 1
  have e := len_size s
  have h1 := rn_flat s.data.toList [32, 36] (by intro r hr; simp at hr; unfold okR; omega)
  have h2 : (⟨(s.data.toList ++ [32, 36].flatMap enc).toArray⟩ : ByteArray) = s ++ tail2 := by
    apply byteArray_ext
    rw [append_toList]
    rfl
  rw [h2, e] at h1
  exact h1

/-- What is told goes on; what is refused stays refused. -/
theorem scan_app (R : List Nat) : ∀ (L : List Nat) (done : List Tok) (cur : Option Tok) (p : Nat),
    ((scan done cur p L).2.2 ≠ 0 ∧ scan done cur p (L ++ R) = scan done cur p L) ∨ ((scan done cur p L).2.2 = 0 ∧ ∃ done' cur', (scan done cur p L).1 = done' ++ cur'.toList ∧ scan done cur p (L ++ R) = scan done' cur' (p + L.length) R)
  | [], done, cur, p => .inr ⟨rfl, done, cur, rfl, rfl⟩
  | r :: L, done, cur, p => by
    rw [List.cons_append, List.length_cons, show p + (L.length + 1) = p + 1 + L.length by omega]
    cases hk : keepO cur r with
    | yes t => rw [scan_yes hk, scan_yes hk]; exact scan_app R L _ _ _
    | big => rw [scan_big hk, scan_big hk]; exact .inl ⟨by simp, rfl⟩
    | no =>
      cases hb : blkB r with
      | true => rw [scan_blank hk hb, scan_blank hk hb]; exact scan_app R L _ _ _
      | false =>
        cases hg : beg r p with
        | some t => rw [scan_beg hk hb hg, scan_beg hk hb hg]; exact scan_app R L _ _ _
        | none => rw [scan_bad hk hb hg, scan_bad hk hb hg]; exact .inl ⟨by simp, rfl⟩
theorem keep_blank (cur : Option Tok) {r : Nat} (hr : blkB r = true) : keepO cur r = .no := by
  have h : r = 32 ∨ r = 9 := by unfold blkB at hr; simpa using hr
  cases cur with
  | none => rfl
  | some t =>
    show keepOn t r = .no
    have hl : letB r = false := by rcases h with rfl | rfl <;> rfl
    have hd : digB r = false := by rcases h with rfl | rfl <;> rfl
    have hs : ¬ (t.text ++ [r] = [33, 61] ∨ t.text ++ [r] = [60, 61]) := by
      have hlast : (t.text ++ [r]).getLast? = some r := by simp
      rintro (e | e) <;> (rw [e] at hlast; simp at hlast; omega)
    unfold keepOn
    rw [hl, hd, if_neg hs]
    simp
theorem scan_tail2 (done : List Tok) (cur : Option Tok) (p : Nat) : scan done cur p [32, 36] = ([], p + 1, 70) := by
  rw [scan_blank (keep_blank cur rfl) rfl, scan_bad rfl rfl rfl]
/-- LexEnds, of the plain answers. -/
theorem ends_of {s : ByteArray} (hs : s.size + 2 ≤ 400) : ((toksO s).2.2 ≠ 0 ∧ (toksO (s ++ tail2)).2.2 = (toksO s).2.2) ∨ ((toksO s).2.2 = 0 ∧ toksO (s ++ tail2) = ([], (rn s 0).length + 1, 70)) := by
  have h1 : toksO s = scan [] none 0 (rn s 0) := by unfold toksO; rw [if_neg (by omega)]
  have h2 : toksO (s ++ tail2) = scan [] none 0 (rn s 0 ++ [32, 36]) := by
    unfold toksO; rw [if_neg (by rw [size_app]; show ¬ 400 < s.size + 2; omega), rn_tail2]
  rw [h1, h2]
  rcases scan_app [32, 36] (rn s 0) [] none 0 with ⟨a, b⟩ | ⟨a, d, c, _, b⟩
  · exact .inl ⟨a, by rw [b]⟩
  · exact .inr ⟨a, by rw [b, scan_tail2, Nat.zero_add]⟩
end Go.Proofs.Ytnnaejkhbccnaaa.lex

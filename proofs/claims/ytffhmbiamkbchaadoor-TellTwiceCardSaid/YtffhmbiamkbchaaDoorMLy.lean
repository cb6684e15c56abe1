/- Plain facts on a text that goes on with a blank and a rune that begins no token: no program's run in this file. Plain facts on runs of letters, of digits, of signs: no program's run in this file. Plain facts on tokens told as text, with blanks between them: no program's run in this file. -/
import Derived.Test.YtffhmbiamkbchaaDoorLxP
import Derived.Lib.ItoaNum
section
namespace Go.Proofs.YtffhmbiamkbchaaDoor.lex
set_option linter.unusedSimpArgs false
set_option linter.unusedVariables false
open nam
open Go.Lib (decodeN decode_at)

theorem decodeN_ext {n m b0 b1 b2 b3 c1 c2 c3 : Nat} (h0 : 0 < n) (hm : n ≤ m) (h1 : 1 < n → c1 = b1) (h1' : ¬ 1 < n → c1 < 128) (h2 : 2 < n → c2 = b2) (h2' : ¬ 2 < n → c2 < 128) (h3 : 3 < n → c3 = b3) (h3' : ¬ 3 < n → c3 < 128) :
    decodeN m b0 c1 c2 c3 = decodeN n b0 b1 b2 b3 := by
  have e1 : (1 < m ∧ c1 / 64 = 2) = (1 < n ∧ b1 / 64 = 2) := by
    by_cases h : 1 < n
    · rw [h1 h]; exact propext ⟨fun k => ⟨h, k.2⟩, fun k => ⟨by omega, k.2⟩⟩
    · have := h1' h; exact propext ⟨fun k => by omega, fun k => by omega⟩
  have e2 : (2 < m ∧ c2 / 64 = 2) = (2 < n ∧ b2 / 64 = 2) := by
    by_cases h : 2 < n
    · rw [h2 h]; exact propext ⟨fun k => ⟨h, k.2⟩, fun k => ⟨by omega, k.2⟩⟩
    · have := h2' h; exact propext ⟨fun k => by omega, fun k => by omega⟩
  have e3 : (3 < m ∧ c3 / 64 = 2) = (3 < n ∧ b3 / 64 = 2) := by
    by_cases h : 3 < n
    · rw [h3 h]; exact propext ⟨fun k => ⟨h, k.2⟩, fun k => ⟨by omega, k.2⟩⟩
    · have := h3' h; exact propext ⟨fun k => by omega, fun k => by omega⟩
  unfold decodeN
  simp only [e1, e2, e3]
  by_cases h : 1 < n
  · rw [h1 h]
    by_cases k : 2 < n
    · rw [h2 k]
      by_cases l : 3 < n
      · rw [h3 l]
      · simp only [l, false_and, and_false, if_false]
    · simp only [k, show ¬ 3 < n by omega, false_and, and_false, if_false]
  · simp only [h, show ¬ 2 < n by omega, show ¬ 3 < n by omega, false_and, and_false, if_false]
theorem decodeN_width (n b0 b1 b2 b3 : Nat) (h : 0 < n) : (decodeN n b0 b1 b2 b3).2 ≤ n := by
  unfold decodeN
  repeat' split
  all_goals (simp only; omega)
theorem len_size (s : ByteArray) : s.data.toList.length = s.size := Array.length_toList
theorem decode_fits (s : ByteArray) (i : Nat) (h : i < s.size) : i + (Utf8.decode s i).2 ≤ s.size := by
  rw [decode_list]
  have := decodeN_width (s.data.toList.length - i) (s.data.toList.getD i 0).toNat (s.data.toList.getD (i + 1) 0).toNat (s.data.toList.getD (i + 2) 0).toNat (s.data.toList.getD (i + 3) 0).toNat (by have e := len_size s; omega)
  have e := len_size s
  omega
/-- Bytes of ASCII behind a text leave its runes as they are. -/
theorem decode_app (s t : ByteArray) (ht : ∀ x ∈ t.data.toList, x.toNat < 128) (i : Nat) (h : i < s.size) : Utf8.decode (s ++ t) i = Utf8.decode s i := by
  rw [decode_list, decode_list]
  have e := len_size s
  have ea : (s ++ t).data.toList = s.data.toList ++ t.data.toList := append_toList s t
  rw [ea]
  have low : ∀ j, s.data.toList.length ≤ j → ((s.data.toList ++ t.data.toList).getD j 0).toNat < 128 := fun j hj => by
    rw [List.getD_eq_getElem?_getD, List.getElem?_append_right hj]
    cases hx : t.data.toList[j - s.data.toList.length]? with
    | none => simp
    | some x => exact ht x (List.mem_of_getElem? hx)
  have same : ∀ j, j < s.data.toList.length → (s.data.toList ++ t.data.toList).getD j 0 = s.data.toList.getD j 0 := fun j hj => by
    rw [List.getD_eq_getElem?_getD, List.getElem?_append_left hj, List.getD_eq_getElem?_getD]
  rw [same i (by omega)]
  refine decodeN_ext (by omega) (by rw [List.length_append]; omega) ?_ ?_ ?_ ?_ ?_ ?_
  · intro k; rw [same (i + 1) (by omega)]
  · intro k; exact low _ (by omega)
  · intro k; rw [same (i + 2) (by omega)]
  · intro k; exact low _ (by omega)
  · intro k; rw [same (i + 3) (by omega)]
  · intro k; exact low _ (by omega)
theorem size_app (s t : ByteArray) : (s ++ t).size = s.size + t.size := by simp
theorem rn_app (s t : ByteArray) (ht : ∀ x ∈ t.data.toList, x.toNat < 128) : ∀ (f pos : Nat), s.size ≤ pos + f → pos ≤ s.size → rn (s ++ t) pos = rn s pos ++ rn (s ++ t) s.size
  | 0, pos, h1, h2 => by
    obtain rfl : pos = s.size := by omega
    rw [rn_end s s.size (by omega)]; rfl
  | f + 1, pos, h1, h2 => by
    by_cases h : pos < s.size
    · have hf := decode_fits s pos h
      have hw := width_pos s pos h
      rw [rn_step s pos h, rn_step (s ++ t) pos (by rw [size_app]; omega), decode_app s t ht pos h, rn_app s t ht f _ (by omega) hf]
      rfl
    · obtain rfl : pos = s.size := by omega
      rw [rn_end s s.size (by omega)]; rfl
def tail2 : ByteArray := ⟨#[32, 36]⟩
theorem rn_tail2 (s : ByteArray) : rn (s ++ tail2) 0 = rn s 0 ++ [32, 36] := by
  have ht : ∀ x ∈ tail2.data.toList, x.toNat < 128 := by decide
  rw [rn_app s tail2 ht s.size 0 (by omega) (by omega)]
  congr 1
  have e := len_size s
  have h1 := rn_flat s.data.toList [32, 36] (by intro r hr; simp at hr; unfold okR; omega)
  have h2 : (⟨(s.data.toList ++ [32, 36].flatMap enc).toArray⟩ : ByteArray) = s ++ tail2 := by
    apply byteArray_ext
    rw [append_toList]
    rfl
  rw [h2, e] at h1
  exact h1

/-- What is told goes on; what is refused stays refused. -/
theorem scan_app (R : List Nat) : ∀ (L : List Nat) (done : List Tok) (cur : Option Tok) (p : Nat),
    ((scan done cur p L).2.2 ≠ 0 ∧ scan done cur p (L ++ R) = scan done cur p L) ∨ ((scan done cur p L).2.2 = 0 ∧ ∃ done' cur', (scan done cur p L).1 = done' ++ cur'.toList ∧ scan done cur p (L ++ R) = scan done' cur' (p + L.length) R)
  | [], done, cur, p => .inr ⟨rfl, done, cur, rfl, rfl⟩
  | r :: L, done, cur, p => by
    rw [List.cons_append, List.length_cons, show p + (L.length + 1) = p + 1 + L.length by omega]
    cases hk : keepO cur r with
    | yes t => rw [scan_yes hk, scan_yes hk]; exact scan_app R L _ _ _
    | big => rw [scan_big hk, scan_big hk]; exact .inl ⟨by simp, rfl⟩
    | no =>
      cases hb : blkB r with
      | true => rw [scan_blank hk hb, scan_blank hk hb]; exact scan_app R L _ _ _
      | false =>
        cases hg : beg r p with
        | some t => rw [scan_beg hk hb hg, scan_beg hk hb hg]; exact scan_app R L _ _ _
        | none => rw [scan_bad hk hb hg, scan_bad hk hb hg]; exact .inl ⟨by simp, rfl⟩
theorem keep_blank (cur : Option Tok) {r : Nat} (hr : blkB r = true) : keepO cur r = .no := by
  have h : r = 32 ∨ r = 9 := by unfold blkB at hr; simpa using hr
  cases cur with
  | none => rfl
  | some t =>
    show keepOn t r = .no
    have hl : letB r = false := by rcases h with rfl | rfl <;> rfl
    have hd : digB r = false := by rcases h with rfl | rfl <;> rfl
    have hs : ¬ (t.text ++ [r] = [33, 61] ∨ t.text ++ [r] = [60, 61]) := by
      have hlast : (t.text ++ [r]).getLast? = some r := by simp
      rintro (e | e) <;> (rw [e] at hlast; simp at hlast; omega)
    unfold keepOn
    rw [hl, hd, if_neg hs]
    simp
theorem scan_tail2 (done : List Tok) (cur : Option Tok) (p : Nat) : scan done cur p [32, 36] = ([], p + 1, 70) := by
  rw [scan_blank (keep_blank cur rfl) rfl, scan_bad rfl rfl rfl]
/-- LexEnds, of the plain answers. -/
theorem ends_of {s : ByteArray} (hs : s.size + 2 ≤ 400) : ((toksO s).2.2 ≠ 0 ∧ (toksO (s ++ tail2)).2.2 = (toksO s).2.2) ∨ ((toksO s).2.2 = 0 ∧ toksO (s ++ tail2) = ([], (rn s 0).length + 1, 70)) := by
  have h1 : toksO s = scan [] none 0 (rn s 0) := by unfold toksO; rw [if_neg (by omega)]
  have h2 : toksO (s ++ tail2) = scan [] none 0 (rn s 0 ++ [32, 36]) := by
    unfold toksO; rw [if_neg (by rw [size_app]; show ¬ 400 < s.size + 2; omega), rn_tail2]
  rw [h1, h2]
  rcases scan_app [32, 36] (rn s 0) [] none 0 with ⟨a, b⟩ | ⟨a, d, c, _, b⟩
  · exact .inl ⟨a, by rw [b]⟩
  · exact .inr ⟨a, by rw [b, scan_tail2, Nat.zero_add]⟩
end Go.Proofs.YtffhmbiamkbchaaDoor.lex
end
section
namespace Go.Proofs.YtffhmbiamkbchaaDoor.lex
set_option linter.unusedSimpArgs false
set_option linter.unusedVariables false
open nam

def more10 (a r : Nat) : Nat := 10 * a + (r - 48)
def val (a : Nat) (l : List Nat) : Nat := l.foldl more10 a
theorem val_nil (a : Nat) : val a [] = a := by unfold val; rw [List.foldl_nil]
theorem val_cons (a r : Nat) (l : List Nat) : val a (r :: l) = val (10 * a + (r - 48)) l := by
  unfold val; rw [List.foldl_cons, more10]
theorem val_le (l : List Nat) : ∀ a : Nat, a ≤ val a l := by
  induction l with
  | nil => intro a; rw [val_nil]; exact Nat.le_refl _
  | cons r l ih =>
    intro a
    rw [val_cons]
    exact Nat.le_trans (by omega) (ih _)
theorem val_app (l m : List Nat) : ∀ a : Nat, val a (l ++ m) = val (val a l) m := by
  induction l with
  | nil => intro a; rw [val_nil, List.nil_append]
  | cons r l ih => intro a; rw [List.cons_append, val_cons, val_cons, ih]
theorem dig_range {r : Nat} (h : digB r = true) : 48 ≤ r ∧ r ≤ 57 := by unfold digB at h; simpa using h
theorem let_dig {r : Nat} (h : digB r = true) : letB r = false := by
  have := dig_range h
  unfold letB
  simp; omega
theorem let_blk {r : Nat} (h : letB r = true) : blkB r = false := by
  unfold letB at h
  unfold blkB
  simp at h ⊢; omega
theorem let_sgn {r : Nat} (h : letB r = true) : sgnB r = false := by
  unfold letB at h
  unfold sgnB
  simp at h ⊢; omega
theorem dig_blk {r : Nat} (h : digB r = true) : blkB r = false := by
  have := dig_range h
  unfold blkB
  simp; omega
theorem sgn_facts {r : Nat} (h : sgnB r = true) : letB r = false ∧ digB r = false ∧ blkB r = false ∧ okR r := by
  have h' : r = 43 ∨ r = 45 ∨ r = 42 ∨ r = 47 ∨ r = 37 ∨ r = 40 ∨ r = 41 ∨ r = 38 ∨ r = 124 ∨ r = 33 ∨ r = 61 ∨ r = 60 := by
    unfold sgnB at h
    simpa using h
  rcases h' with rfl | rfl | rfl | rfl | rfl | rfl | rfl | rfl | rfl | rfl | rfl | rfl <;> exact ⟨rfl, rfl, rfl, .inl (by omega)⟩
theorem beg_let {r p : Nat} (h : letB r = true) : beg r p = some ⟨1, [r], 0, p⟩ := by unfold beg; rw [h]; rfl
theorem beg_dig {r p : Nat} (h : digB r = true) : beg r p = some ⟨2, [], r - 48, p⟩ := by unfold beg; rw [let_dig h, h]; rfl
theorem beg_sgn {r p : Nat} (h : sgnB r = true) : beg r p = some ⟨3, [r], 0, p⟩ := by
  obtain ⟨a, b, _⟩ := sgn_facts h
  unfold beg; rw [a, b, h]; rfl
theorem keepO1 (x : List Nat) (n pl r : Nat) : keepO (some ⟨1, x, n, pl⟩) r = if letB r then .yes ⟨1, x ++ [r], n, pl⟩ else .no := rfl
theorem keepO2 (x : List Nat) (n pl r : Nat) : keepO (some ⟨2, x, n, pl⟩) r = if digB r then (if (9223372036854775807 - (r - 48)) / 10 < n then .big else .yes ⟨2, x, 10 * n + (r - 48), pl⟩) else .no := rfl
theorem keepO3 (x : List Nat) (n pl r : Nat) : keepO (some ⟨3, x, n, pl⟩) r = if x ++ [r] = [33, 61] ∨ x ++ [r] = [60, 61] then .yes ⟨3, x ++ [r], n, pl⟩ else .no := rfl
theorem keep_let {x : List Nat} {n pl r : Nat} (h : letB r = true) : keepO (some ⟨1, x, n, pl⟩) r = .yes ⟨1, x ++ [r], n, pl⟩ := by
  rw [keepO1, h, if_pos rfl]
theorem keep_nolet {x : List Nat} {n pl r : Nat} (h : letB r = false) : keepO (some ⟨1, x, n, pl⟩) r = .no := by
  rw [keepO1, h]; rfl
theorem keep_dig {x : List Nat} {n pl r : Nat} (h : digB r = true) (hn : 10 * n + (r - 48) ≤ 9223372036854775807) : keepO (some ⟨2, x, n, pl⟩) r = .yes ⟨2, x, 10 * n + (r - 48), pl⟩ := by
  have := dig_range h
  have h2 : ¬ (9223372036854775807 - (r - 48)) / 10 < n := by omega
  rw [keepO2, h, if_pos rfl, if_neg h2]
theorem keep_big {x : List Nat} {n pl r : Nat} (h : digB r = true) (hn : ¬ 10 * n + (r - 48) ≤ 9223372036854775807) : keepO (some ⟨2, x, n, pl⟩) r = .big := by
  have := dig_range h
  have h2 : (9223372036854775807 - (r - 48)) / 10 < n := by omega
  rw [keepO2, h, if_pos rfl, if_pos h2]
theorem keep_nodig {x : List Nat} {n pl r : Nat} (h : digB r = false) : keepO (some ⟨2, x, n, pl⟩) r = .no := by
  rw [keepO2, h]; rfl
theorem keep_two {x : List Nat} {n pl r : Nat} (h : x ++ [r] = [33, 61] ∨ x ++ [r] = [60, 61]) : keepO (some ⟨3, x, n, pl⟩) r = .yes ⟨3, x ++ [r], n, pl⟩ := by
  rw [keepO3, if_pos h]
theorem keep_one {x : List Nat} {n pl r : Nat} (h : ¬ (x ++ [r] = [33, 61] ∨ x ++ [r] = [60, 61])) : keepO (some ⟨3, x, n, pl⟩) r = .no := by
  rw [keepO3, if_neg h]
theorem scan_letters : ∀ (xs rest : List Nat) (done : List Tok) (x : List Nat) (n pl p : Nat), (∀ r ∈ xs, letB r = true) → scan done (some ⟨1, x, n, pl⟩) p (xs ++ rest) = scan done (some ⟨1, x ++ xs, n, pl⟩) (p + xs.length) rest
  | [], rest, done, x, n, pl, p, _ => by simp
  | r :: xs, rest, done, x, n, pl, p, h => by
    rw [List.cons_append, scan_yes (keep_let (h r List.mem_cons_self)), scan_letters xs rest done _ n pl (p + 1) (fun y hy => h y (List.mem_cons_of_mem _ hy)), List.length_cons, List.append_assoc, show p + 1 + xs.length = p + (xs.length + 1) by omega]
    rfl
theorem scan_digits : ∀ (xs rest : List Nat) (done : List Tok) (x : List Nat) (a pl p : Nat), (∀ r ∈ xs, digB r = true) → val a xs ≤ 9223372036854775807 → scan done (some ⟨2, x, a, pl⟩) p (xs ++ rest) = scan done (some ⟨2, x, val a xs, pl⟩) (p + xs.length) rest
  | [], rest, done, x, a, pl, p, _, _ => by rw [val_nil]; rfl
  | r :: xs, rest, done, x, a, pl, p, h, hv => by
    have h1 := val_le xs (10 * a + (r - 48))
    have hv' : val (10 * a + (r - 48)) xs ≤ 9223372036854775807 := by rw [← val_cons]; exact hv
    rw [List.cons_append, scan_yes (keep_dig (h r List.mem_cons_self) (by omega)), scan_digits xs rest done x _ pl (p + 1) (fun y hy => h y (List.mem_cons_of_mem _ hy)) hv', List.length_cons, val_cons, show p + 1 + xs.length = p + (xs.length + 1) by omega]
/-- A token that doesn't go on is done. -/
theorem scan_shut {done : List Tok} {t : Tok} {p : Nat} : ∀ {rest : List Nat}, (∀ r, rest.head? = some r → keepO (some t) r = .no) → scan done (some t) p rest = scan (done ++ [t]) none p rest
  | [], _ => by simp [scan_nil]
  | r :: rest, h => by
    have hk := h r rfl
    have hn : keepO none r = .no := rfl
    cases hb : blkB r with
    | true => rw [scan_blank hk hb, scan_blank hn hb]; simp
    | false =>
      cases hg : beg r p with
      | some t' => rw [scan_beg hk hb hg, scan_beg hn hb hg]; simp
      | none => rw [scan_bad hk hb hg, scan_bad hn hb hg]
/-- A name. -/
theorem scan_name {done : List Tok} {p : Nat} {xs rest : List Nat} (h0 : xs ≠ []) (h : ∀ r ∈ xs, letB r = true) (hr : ∀ r, rest.head? = some r → letB r = false) :
    scan done none p (xs ++ rest) = scan (done ++ [⟨1, xs, 0, p⟩]) none (p + xs.length) rest := by
  cases xs with
  | nil => exact absurd rfl h0
  | cons r xs =>
    have hl := h r List.mem_cons_self
    have hn : keepO none r = .no := rfl
    rw [List.cons_append, scan_beg hn (let_blk hl) (beg_let hl), scan_letters xs rest _ [r] 0 p (p + 1) (fun y hy => h y (List.mem_cons_of_mem _ hy)), scan_shut (fun x hx => keep_nolet (hr x hx)), List.length_cons, show p + 1 + xs.length = p + (xs.length + 1) by omega]
    simp
/-- Digits, some of a number's. -/
theorem scan_some {done : List Tok} {p : Nat} {xs rest : List Nat} (h0 : xs ≠ []) (h : ∀ r ∈ xs, digB r = true) (hv : val 0 xs ≤ 9223372036854775807) :
    scan done none p (xs ++ rest) = scan done (some ⟨2, [], val 0 xs, p⟩) (p + xs.length) rest := by
  cases xs with
  | nil => exact absurd rfl h0
  | cons r xs =>
    have hl := h r List.mem_cons_self
    have hn : keepO none r = .no := rfl
    have e : val (r - 48) xs = val 0 (r :: xs) := by rw [val_cons, Nat.mul_zero, Nat.zero_add]
    rw [List.cons_append, scan_beg hn (dig_blk hl) (beg_dig hl), scan_digits xs rest _ [] (r - 48) p (p + 1) (fun y hy => h y (List.mem_cons_of_mem _ hy)) (by rw [e]; exact hv), e, List.length_cons, show p + 1 + xs.length = p + (xs.length + 1) by omega]
    simp
/-- A number. -/
theorem scan_number {done : List Tok} {p : Nat} {xs rest : List Nat} (h0 : xs ≠ []) (h : ∀ r ∈ xs, digB r = true) (hv : val 0 xs ≤ 9223372036854775807) (hr : ∀ r, rest.head? = some r → digB r = false) :
    scan done none p (xs ++ rest) = scan (done ++ [⟨2, [], val 0 xs, p⟩]) none (p + xs.length) rest := by
  rw [scan_some h0 h hv, scan_shut (fun x hx => keep_nodig (hr x hx))]
/-- A number that is too great. -/
theorem scan_toobig {done : List Tok} {p r : Nat} {xs rest : List Nat} (h : ∀ y ∈ xs, digB y = true) (hd : digB r = true) (hv : val 0 xs ≤ 9223372036854775807) (hb : ¬ 10 * val 0 xs + (r - 48) ≤ 9223372036854775807) :
    scan done none p (xs ++ r :: rest) = ([], p, 71) := by
  cases xs with
  | nil =>
    have := dig_range hd
    rw [val_nil] at hb
    omega
  | cons y xs =>
    rw [scan_some (by simp) h hv, scan_big (keep_big hd hb)]
    rfl
/-- A sign. -/
theorem scan_sign {done : List Tok} {p c : Nat} {rest : List Nat} (h : sgnB c = true) (hr : ∀ r, rest.head? = some r → ¬ ([c] ++ [r] = [33, 61] ∨ [c] ++ [r] = [60, 61])) :
    scan done none p (c :: rest) = scan (done ++ [⟨3, [c], 0, p⟩]) none (p + 1) rest := by
  have hn : keepO none c = .no := rfl
  rw [scan_beg hn (sgn_facts h).2.2.1 (beg_sgn h), scan_shut (fun x hx => keep_one (hr x hx))]
  simp
theorem scan_sign2 {done : List Tok} {p c : Nat} {rest : List Nat} (h : c = 33 ∨ c = 60) : scan done none p (c :: 61 :: rest) = scan (done ++ [⟨3, [c, 61], 0, p⟩]) none (p + 2) rest := by
  have hn : keepO none c = .no := rfl
  have hs : sgnB c = true := by rcases h with rfl | rfl <;> rfl
  have hk : [c] ++ [61] = [33, 61] ∨ [c] ++ [61] = [60, 61] := by rcases h with rfl | rfl <;> simp
  rw [scan_beg hn (sgn_facts hs).2.2.1 (beg_sgn hs), scan_yes (keep_two hk), scan_shut (fun x _ => keep_one (by simp))]
  simp

/-- What a rune is: 1 a letter, 2 a digit, 3 a sign, 4 a blank, 0 nothing. -/
def cls (r : Nat) : Nat := if digB r then 2 else if blkB r then 4 else if sgnB r then 3 else if letB r then 1 else 0
theorem cls_let {r : Nat} (h : letB r = true) : cls r = 1 := by
  have hd : digB r = false := by cases hd : digB r with | false => rfl | true => rw [let_dig hd] at h; cases h
  unfold cls; rw [hd, let_blk h, let_sgn h, h]; rfl
theorem cls_dig {r : Nat} (h : digB r = true) : cls r = 2 := by unfold cls; rw [h]; rfl
theorem cls_1 {r : Nat} (h : cls r = 1) : letB r = true := by
  unfold cls at h
  split at h
  · omega
  · split at h
    · omega
    · split at h
      · omega
      · split at h
        · assumption
        · omega
theorem cls_2 {r : Nat} (h : cls r = 2) : digB r = true := by
  unfold cls at h
  split at h
  · assumption
  · split at h
    · omega
    · split at h
      · omega
      · split at h <;> omega
theorem cls_3 {r : Nat} (h : cls r = 3) : sgnB r = true := by
  unfold cls at h
  split at h
  · omega
  · split at h
    · omega
    · split at h
      · assumption
      · split at h <;> omega
theorem cls_4 {r : Nat} (h : cls r = 4) : blkB r = true := by
  unfold cls at h
  split at h
  · omega
  · split at h
    · assumption
    · split at h
      · omega
      · split at h <;> omega
theorem cls_0 {r p : Nat} (h : cls r = 0) : blkB r = false ∧ beg r p = none := by
  unfold cls at h
  unfold beg
  split at h
  · omega
  · rename_i h1
    split at h
    · omega
    · rename_i h2
      split at h
      · omega
      · rename_i h3
        split at h
        · omega
        · rename_i h4
          rw [if_neg h4, if_neg h1, if_neg h3]
          exact ⟨by simpa using h2, rfl⟩
theorem cls_le (r : Nat) : cls r ≤ 4 := by
  unfold cls
  repeat' split
  all_goals omega
end Go.Proofs.YtffhmbiamkbchaaDoor.lex
end
section
namespace Go.Proofs.YtffhmbiamkbchaaDoor.lex
set_option linter.unusedSimpArgs false
set_option linter.unusedVariables false
open nam

def digR (u : Nat) : List Nat := (Lib.decDigits u).map UInt8.toNat
theorem dec_small {u : Nat} (h : u < 10) : Lib.decDigits u = [UInt8.ofNat (48 + u)] := by rw [Lib.decDigits, dif_pos h]
theorem dec_big {u : Nat} (h : ¬ u < 10) : Lib.decDigits u = Lib.decDigits (u / 10) ++ [UInt8.ofNat (48 + u % 10)] := by rw [Lib.decDigits, dif_neg h]
theorem digR_small {u : Nat} (h : u < 10) : digR u = [48 + u] := by
  unfold digR; rw [dec_small h]; simp only [List.map_cons, List.map_nil]; rw [toNat_ofNat _ (by omega)]
theorem digR_big {u : Nat} (h : ¬ u < 10) : digR u = digR (u / 10) ++ [48 + u % 10] := by
  unfold digR; rw [dec_big h, List.map_append]; simp only [List.map_cons, List.map_nil]; rw [toNat_ofNat _ (by omega)]
theorem digR_facts (u : Nat) : (∀ r ∈ digR u, digB r = true) ∧ digR u ≠ [] ∧ val 0 (digR u) = u := by
  induction u using Nat.strongRecOn with
  | ind u ih =>
    by_cases h : u < 10
    · rw [digR_small h]
      refine ⟨fun r hr => ?_, by simp, by rw [val_cons, val_nil]; omega⟩
      simp at hr
      unfold digB
      simp; omega
    · obtain ⟨h1, h2, h3⟩ := ih (u / 10) (by omega)
      rw [digR_big h]
      refine ⟨fun r hr => ?_, by simp, by rw [val_app, h3, val_cons, val_nil]; omega⟩
      rcases List.mem_append.1 hr with hr | hr
      · exact h1 r hr
      · simp at hr
        unfold digB
        simp; omega
theorem len_snoc' {α : Type} {l : List α} {x : α} : (l ++ [x]).length = l.length + 1 := by simp
theorem dec_len : ∀ (k u : Nat), u < 10 ^ (k + 1) → (Lib.decDigits u).length ≤ k + 1
  | 0, u, h => by rw [dec_small (by simpa using h)]; simp
  | k + 1, u, h => by
    by_cases h1 : u < 10
    · rw [dec_small h1]; simp
    · rw [dec_big h1, len_snoc']
      have := dec_len k (u / 10) (by rw [Nat.pow_succ] at h; omega)
      omega
theorem digR_len {u : Nat} (h : u ≤ 9223372036854775807) : (digR u).length ≤ 20 := by
  unfold digR; rw [List.length_map]; exact dec_len 19 u (by omega)
theorem flat_ascii : ∀ (l : List UInt8), (∀ x ∈ l, x.toNat < 128) → (l.map UInt8.toNat).flatMap enc = l
  | [], _ => rfl
  | x :: l, h => by
    rw [List.map_cons, List.flatMap_cons, flat_ascii l (fun y hy => h y (List.mem_cons_of_mem _ hy))]
    have hx := h x List.mem_cons_self
    unfold enc
    rw [if_pos hx, ofNat_eq x _ rfl]; rfl
theorem text_ascii (l : List UInt8) (h : ∀ x ∈ l, x.toNat < 128) : (⟨l.toArray⟩ : ByteArray) = textOf (l.map UInt8.toNat) := by
  apply byteArray_ext
  rw [textOf_toList, flat_ascii l h]
theorem itoa_text (u : Nat) : (⟨(Lib.itoa (u : Int)).toArray⟩ : ByteArray) = textOf (digR u) := by
  have e : Lib.itoa (u : Int) = Lib.decDigits u := by unfold Lib.itoa; rw [if_neg (by omega)]; rfl
  rw [e]
  refine text_ascii _ (fun x hx => ?_)
  have := dig_range ((digR_facts u).1 x.toNat (List.mem_map_of_mem hx))
  omega
theorem textOf_app (a b : List Nat) : textOf a ++ textOf b = textOf (a ++ b) := by
  apply byteArray_ext
  rw [append_toList, textOf_toList, textOf_toList, textOf_toList, List.flatMap_append]
theorem toksO_textOf {l : List Nat} (h : ∀ r ∈ l, okR r) (hs : ¬ 400 < (textOf l).size) : toksO (textOf l) = scan [] none 0 l := by
  unfold toksO; rw [if_neg hs, rn_textOf l h]
theorem dig_ok {r : Nat} (h : digB r = true) : okR r := by have := dig_range h; unfold okR; omega

/-- LexNumbers, of the plain answers. -/
theorem numbers_of {z u : Nat} (hz : z ≤ 5) (hu : u ≤ 9223372036854775807) :
    toksO (textOf (List.replicate z 48 ++ digR u ++ [120])) = ([⟨2, [], u, 0⟩, ⟨1, [120], 0, (List.replicate z 48 ++ digR u).length⟩], 0, 0) := by
  obtain ⟨h1, h2, h3⟩ := digR_facts u
  have hz1 : ∀ r ∈ List.replicate z 48, digB r = true := fun r hr => by rw [(List.mem_replicate.1 hr).2]; rfl
  have hv0 : val 0 (List.replicate z 48) = 0 := by
    clear hz hz1
    induction z with
    | zero => rw [List.replicate_zero, val_nil]
    | succ z ih => rw [List.replicate_succ, val_cons]; exact ih
  have hall : ∀ r ∈ List.replicate z 48 ++ digR u, digB r = true := fun r hr => by
    rcases List.mem_append.1 hr with h | h
    · exact hz1 r h
    · exact h1 r h
  have hv : val 0 (List.replicate z 48 ++ digR u) = u := by rw [val_app, hv0, h3]
  have hne : List.replicate z 48 ++ digR u ≠ [] := by simp [h2]
  have hlen := digR_len hu
  rw [toksO_textOf (fun r hr => by
    rcases List.mem_append.1 hr with h | h
    · exact dig_ok (hall r h)
    · simp at h; subst h; unfold okR; omega) (by
    have := textOf_bound (List.replicate z 48 ++ digR u ++ [120]) 26 (by simp; omega)
    omega)]
  rw [scan_number hne hall (by omega) (fun r hr => by simp at hr; subst hr; rfl), hv, Nat.zero_add]
  have := scan_name (done := [] ++ [⟨2, [], u, 0⟩]) (p := (List.replicate z 48 ++ digR u).length) (xs := [120]) (rest := []) (by simp) (by intro r hr; simp at hr; subst hr; rfl) (by intro r hr; simp at hr)
  rw [List.append_nil] at this
  rw [this, scan_nil]
  simp

/-- A token's text. -/
def tokR (t : Tok) : List Nat := if t.kind = 2 then digR t.n else t.text
/-- What a told token is like. -/
def Gd (t : Tok) : Prop :=
  (t.kind = 1 ∧ t.text ≠ [] ∧ (∀ r ∈ t.text, letB r = true ∧ okR r) ∧ t.n = 0) ∨ (t.kind = 2 ∧ t.text = [] ∧ t.n ≤ 9223372036854775807) ∨
  (t.kind = 3 ∧ t.n = 0 ∧ ((∃ c, sgnB c = true ∧ t.text = [c]) ∨ t.text = [33, 61] ∨ t.text = [60, 61]))
theorem keepO_none {t : Tok} {r : Nat} {g : Goes} (h : keepO none r = g) : g = .no := h.symm
theorem gd_yes {t t' : Tok} {r : Nat} (h : Gd t) (hr : okR r) (hk : keepO (some t) r = .yes t') : Gd t' ∧ t'.place = t.place ∧ t'.text.length ≤ t.text.length + 1 := by
  obtain ⟨k, x, n, p⟩ := t
  rcases h with ⟨h1, h2, h3, h4⟩ | ⟨h1, h2, h3⟩ | ⟨h1, h2, h3⟩
  · dsimp only at h1; subst h1
    rw [keepO1] at hk
    cases hl : letB r with
    | true =>
      rw [hl, if_pos rfl] at hk
      cases hk
      refine ⟨.inl ⟨rfl, by simp, fun y hy => ?_, h4⟩, rfl, by simp⟩
      rcases List.mem_append.1 hy with hy | hy
      · exact h3 y hy
      · simp at hy; subst hy; exact ⟨hl, hr⟩
    | false => rw [hl] at hk; cases hk
  · dsimp only at h1; subst h1
    rw [keepO2] at hk
    cases hd : digB r with
    | true =>
      rw [hd, if_pos rfl] at hk
      have := dig_range hd
      split at hk
      · cases hk
      · rename_i hb
        cases hk
        exact ⟨.inr (.inl ⟨rfl, h2, by show 10 * n + (r - 48) ≤ _; omega⟩), rfl, by simp⟩
    | false => rw [hd] at hk; cases hk
  · dsimp only at h1; subst h1
    rw [keepO3] at hk
    split at hk
    · rename_i he
      cases hk
      exact ⟨.inr (.inr ⟨rfl, h2, .inr he⟩), rfl, by simp⟩
    · cases hk
theorem gd_beg {t : Tok} {r p : Nat} (hr : okR r) (hg : beg r p = some t) : Gd t ∧ t.place = p ∧ t.text.length ≤ 1 := by
  unfold beg at hg
  cases hl : letB r with
  | true => rw [hl, if_pos rfl] at hg; cases hg; exact ⟨.inl ⟨rfl, by simp, by intro y hy; simp at hy; subst hy; exact ⟨hl, hr⟩, rfl⟩, rfl, by simp⟩
  | false =>
    rw [hl, if_neg (by simp)] at hg
    cases hd : digB r with
    | true =>
      rw [hd, if_pos rfl] at hg; cases hg
      have := dig_range hd
      exact ⟨.inr (.inl ⟨rfl, rfl, by show r - 48 ≤ _; omega⟩), rfl, by simp⟩
    | false =>
      rw [hd, if_neg (by simp)] at hg
      cases hs : sgnB r with
      | true => rw [hs, if_pos rfl] at hg; cases hg; exact ⟨.inr (.inr ⟨rfl, rfl, .inl ⟨r, hs, rfl⟩⟩), rfl, by simp⟩
      | false => rw [hs, if_neg (by simp)] at hg; cases hg

/-- Places rise, and stay below p. -/
def Rises (l : List Tok) (p : Nat) : Prop := l.Pairwise (fun a b => a.place < b.place) ∧ ∀ t ∈ l, t.place < p
/-- Good tokens, not too long. -/
def Goods (l : List Tok) (p : Nat) : Prop := ∀ t ∈ l, Gd t ∧ t.text.length ≤ p
theorem Rises.more {l : List Tok} {p q : Nat} (h : Rises l p) (hq : p ≤ q) : Rises l q := ⟨h.1, fun t ht => Nat.lt_of_lt_of_le (h.2 t ht) hq⟩
theorem Goods.more {l : List Tok} {p q : Nat} (h : Goods l p) (hq : p ≤ q) : Goods l q := fun t ht => ⟨(h t ht).1, Nat.le_trans (h t ht).2 hq⟩
theorem Rises.snoc {l : List Tok} {p : Nat} {t : Tok} (h : Rises l p) (ht : t.place = p) : Rises (l ++ [t]) (p + 1) := by
  refine ⟨List.pairwise_append.2 ⟨h.1, by simp, fun a ha b hb => ?_⟩, fun y hy => ?_⟩
  · simp at hb; subst hb; have := h.2 a ha; omega
  · rcases List.mem_append.1 hy with hy | hy
    · have := h.2 y hy; omega
    · simp at hy; subst hy; omega
theorem Rises.swap {l : List Tok} {p : Nat} {t t' : Tok} (h : Rises (l ++ [t]) p) (ht : t'.place = t.place) : Rises (l ++ [t']) p := by
  obtain ⟨h1, h2⟩ := h
  obtain ⟨a, b, c⟩ := List.pairwise_append.1 h1
  refine ⟨List.pairwise_append.2 ⟨a, by simp, fun x hx y hy => ?_⟩, fun y hy => ?_⟩
  · simp at hy; subst hy; rw [ht]; exact c x hx t (by simp)
  · rcases List.mem_append.1 hy with hy | hy
    · exact h2 y (List.mem_append_left _ hy)
    · simp at hy; subst hy; rw [ht]; exact h2 t (by simp)
theorem Goods.snoc {l : List Tok} {p : Nat} {t : Tok} (h : Goods l p) (hg : Gd t) (ht : t.text.length ≤ p) : Goods (l ++ [t]) p := by
  intro y hy
  rcases List.mem_append.1 hy with hy | hy
  · exact h y hy
  · simp at hy; subst hy; exact ⟨hg, ht⟩
/-- What is told rises, and is good. -/
theorem scan_good : ∀ (L : List Nat) (done : List Tok) (cur : Option Tok) (p : Nat), (∀ r ∈ L, okR r) → Rises (done ++ cur.toList) p → Goods (done ++ cur.toList) p → Rises (scan done cur p L).1 (p + L.length) ∧ Goods (scan done cur p L).1 (p + L.length)
  | [], done, cur, p, _, h1, h2 => ⟨h1, h2⟩
  | r :: L, done, cur, p, ho, h1, h2 => by
    have hr := ho r List.mem_cons_self
    have ho' : ∀ y ∈ L, okR y := fun y hy => ho y (List.mem_cons_of_mem _ hy)
    rw [List.length_cons, show p + (L.length + 1) = p + 1 + L.length by omega]
    cases hk : keepO cur r with
    | yes t =>
      rw [scan_yes hk]
      cases cur with
      | none => cases hk
      | some t0 =>
        obtain ⟨g1, g2, g3⟩ := gd_yes (h2 t0 (by simp)).1 hr hk
        have hl := (h2 t0 (by simp)).2
        exact scan_good L done (some t) (p + 1) ho' ((h1.swap g2).more (by omega)) (Goods.snoc (fun y hy => ⟨(h2 y (List.mem_append_left _ hy)).1, by have := (h2 y (List.mem_append_left _ hy)).2; omega⟩) g1 (by omega))
    | big => rw [scan_big hk]; exact ⟨⟨by simp, by simp⟩, by intro y hy; simp at hy⟩
    | no =>
      cases hb : blkB r with
      | true =>
        rw [scan_blank hk hb]
        exact scan_good L _ none (p + 1) ho' (by simpa using h1.more (Nat.le_succ p)) (by simpa using h2.more (Nat.le_succ p))
      | false =>
        cases hg : beg r p with
        | some t =>
          rw [scan_beg hk hb hg]
          obtain ⟨g1, g2, g3⟩ := gd_beg hr hg
          exact scan_good L _ (some t) (p + 1) ho' (h1.snoc g2) (Goods.snoc (h2.more (Nat.le_succ p)) g1 (by omega))
        | none => rw [scan_bad hk hb hg]; exact ⟨⟨by simp, by simp⟩, by intro y hy; simp at hy⟩
theorem toks_good (s : ByteArray) : (toksO s).1.Pairwise (fun a b => a.place < b.place) ∧ (∀ t ∈ (toksO s).1, Gd t ∧ t.text.length ≤ 400) := by
  unfold toksO
  split
  · exact ⟨by simp, by simp⟩
  · obtain ⟨h1, h2⟩ := scan_good (rn s 0) [] none 0 (rn_ok s 0) ⟨by simp, by simp⟩ (by intro y hy; simp at hy)
    have := rn_length s 0
    exact ⟨h1.1, fun t ht => ⟨(h2 t ht).1, by have := (h2 t ht).2; omega⟩⟩

/-- Blanks. -/
def blkR (tab : Bool) : List Nat := if tab then [9, 32] else [32]
theorem blk_head (tab : Bool) (rest : List Nat) : ∃ b more, blkR tab ++ rest = b :: more ∧ blkB b = true ∧ ∀ done p, scan done none p (b :: more) = scan done none (p + (blkR tab).length) rest := by
  cases tab with
  | false => exact ⟨32, rest, rfl, rfl, fun done p => by rw [scan_blank rfl rfl]; simp [blkR]⟩
  | true => exact ⟨9, 32 :: rest, rfl, rfl, fun done p => by rw [scan_blank rfl rfl, scan_blank rfl rfl]; simp [blkR]⟩
theorem scan_tok {t : Tok} (h : Gd t) (tab : Bool) (done : List Tok) (p : Nat) (rest : List Nat) :
    scan done none p (tokR t ++ (blkR tab ++ rest)) = scan (done ++ [⟨t.kind, t.text, t.n, p⟩]) none (p + (tokR t).length + (blkR tab).length) rest := by
  obtain ⟨b, more, e, hb, hs⟩ := blk_head tab rest
  have hbl : letB b = false := by cases hl : letB b with | false => rfl | true => rw [let_blk hl] at hb; cases hb
  have hbd : digB b = false := by cases hd : digB b with | false => rfl | true => rw [dig_blk hd] at hb; cases hb
  have hb2 : b = 32 ∨ b = 9 := by unfold blkB at hb; simpa using hb
  rw [e]
  obtain ⟨k, x, n, pl⟩ := t
  rcases h with ⟨h1, h2, h3, h4⟩ | ⟨h1, h2, h3⟩ | ⟨h1, h2, h3⟩
  · dsimp only at h1 h2 h3 h4; subst h1; subst h4
    have ht : tokR ⟨1, x, 0, pl⟩ = x := rfl
    rw [ht, scan_name h2 (fun r hr => (h3 r hr).1) (fun r hr => by simp at hr; subst hr; exact hbl), hs]
  · dsimp only at h1 h2 h3; subst h1; subst h2
    have ht : tokR ⟨2, [], n, pl⟩ = digR n := rfl
    obtain ⟨d1, d2, d3⟩ := digR_facts n
    rw [ht, scan_number d2 d1 (by omega) (fun r hr => by simp at hr; subst hr; exact hbd), d3, hs]
  · dsimp only at h1 h2 h3; subst h1; subst h2
    have ht : tokR ⟨3, x, 0, pl⟩ = x := rfl
    rw [ht]
    rcases h3 with ⟨c, hc, rfl⟩ | rfl | rfl
    · rw [List.cons_append, List.nil_append, scan_sign hc (fun r hr => by simp at hr; subst hr; simp; omega), hs]; rfl
    · rw [List.cons_append, List.cons_append, List.nil_append, scan_sign2 (.inl rfl), hs]; rfl
    · rw [List.cons_append, List.cons_append, List.nil_append, scan_sign2 (.inr rfl), hs]; rfl
/-- The text of tokens. -/
def toldR (tab : Bool) : List Tok → List Nat
  | [] => []
  | t :: l => tokR t ++ (blkR tab ++ toldR tab l)
/-- A token without its place. -/
def bare (t : Tok) : Tok := ⟨t.kind, t.text, t.n, 0⟩
theorem scan_told (tab : Bool) : ∀ (l : List Tok) (done : List Tok) (p : Nat), (∀ t ∈ l, Gd t) → ∃ m, scan done none p (toldR tab l) = (done ++ m, 0, 0) ∧ m.map bare = l.map bare
  | [], done, p, _ => ⟨[], by simp [toldR, scan_nil], rfl⟩
  | t :: l, done, p, h => by
    obtain ⟨m, h1, h2⟩ := scan_told tab l (done ++ [⟨t.kind, t.text, t.n, p⟩]) (p + (tokR t).length + (blkR tab).length) (fun y hy => h y (List.mem_cons_of_mem _ hy))
    refine ⟨⟨t.kind, t.text, t.n, p⟩ :: m, ?_, by rw [List.map_cons, List.map_cons, h2]; rfl⟩
    show scan done none p (tokR t ++ (blkR tab ++ toldR tab l)) = _
    rw [scan_tok (h t List.mem_cons_self), h1]
    simp
theorem tokR_ok {t : Tok} (h : Gd t) : ∀ r ∈ tokR t, okR r := by
  obtain ⟨k, x, n, pl⟩ := t
  intro r hr
  rcases h with ⟨h1, h2, h3, h4⟩ | ⟨h1, h2, h3⟩ | ⟨h1, h2, h3⟩
  · dsimp only at h1; subst h1; exact (h3 r hr).2
  · dsimp only at h1; subst h1; exact dig_ok ((digR_facts n).1 r hr)
  · dsimp only at h1 h3; subst h1
    have hr : r ∈ x := hr
    rcases h3 with ⟨c, hc, rfl⟩ | rfl | rfl
    · simp at hr; subst hr; exact (sgn_facts hc).2.2.2
    · simp at hr; unfold okR; omega
    · simp at hr; unfold okR; omega
theorem toldR_ok (tab : Bool) : ∀ (l : List Tok), (∀ t ∈ l, Gd t) → ∀ r ∈ toldR tab l, okR r
  | [], _, r, hr => by cases hr
  | t :: l, h, r, hr => by
    rcases List.mem_append.1 hr with hr | hr
    · exact tokR_ok (h t List.mem_cons_self) r hr
    · rcases List.mem_append.1 hr with hr | hr
      · cases tab <;> (simp [blkR] at hr; unfold okR; omega)
      · exact toldR_ok tab l (fun y hy => h y (List.mem_cons_of_mem _ hy)) r hr
/-- LexBlanks, of the plain answers. -/
theorem blanks_of {l : List Tok} (h : ∀ t ∈ l, Gd t) (tab : Bool) (hs : ¬ 400 < (textOf (toldR tab l)).size) : ∃ m, toksO (textOf (toldR tab l)) = (m, 0, 0) ∧ m.map bare = l.map bare ∧ m.Pairwise (fun a b => a.place < b.place) := by
  obtain ⟨m, h1, h2⟩ := scan_told tab l [] 0 h
  have h3 := toksO_textOf (toldR_ok tab l h) hs
  rw [h1] at h3
  have h4 := (toks_good (textOf (toldR tab l))).1
  rw [h3] at h4
  exact ⟨m, by simpa using h3, h2, by simpa using h4⟩
theorem tokR_len {t : Tok} (h : Gd t) (hl : t.text.length ≤ 400) : (tokR t).length ≤ 400 := by
  unfold tokR
  by_cases hk : t.kind = 2
  · rw [if_pos hk]
    rcases h with ⟨h1, _⟩ | ⟨_, _, h3⟩ | ⟨h1, _⟩
    · omega
    · have := digR_len h3; omega
    · omega
  · rw [if_neg hk]; exact hl
theorem toldR_len (tab : Bool) : ∀ (l : List Tok), (∀ t ∈ l, Gd t ∧ t.text.length ≤ 400) → (toldR tab l).length ≤ 402 * l.length
  | [], _ => by simp [toldR]
  | t :: l, h => by
    have h1 := tokR_len (h t List.mem_cons_self).1 (h t List.mem_cons_self).2
    have h2 := toldR_len tab l (fun y hy => h y (List.mem_cons_of_mem _ hy))
    have h3 : (blkR tab).length ≤ 2 := by cases tab <;> simp [blkR]
    simp only [toldR, List.length_append, List.length_cons]
    omega
theorem toldR_snoc (tab : Bool) (t : Tok) : ∀ (l : List Tok), toldR tab (l ++ [t]) = toldR tab l ++ (tokR t ++ blkR tab)
  | [] => by simp [toldR]
  | x :: l => by simp only [List.cons_append, toldR, toldR_snoc tab t l, List.append_assoc]
end Go.Proofs.YtffhmbiamkbchaaDoor.lex
end

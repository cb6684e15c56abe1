/- Plain facts on runs of letters, of digits, of signs: no program's run in this file. -/
import Derived.Test.YtnnaejkhbccnaaaLxS
namespace Go.Proofs.Ytnnaejkhbccnaaa.lex
set_option linter.unusedSimpArgs false
set_option linter.unusedVariables false
open nam

def more10 (a r : Nat) : Nat := 10 * a + (r - 48)
def val (a : Nat) (l : List Nat) : Nat := l.foldl more10 a
theorem val_nil (a : Nat) : val a [] = a := by unfold val; rw [List.foldl_nil]
theorem val_cons (a r : Nat) (l : List Nat) : val a (r :: l) = val (10 * a + (r - 48)) l := by
  unfold val; rw [List.foldl_cons, more10]
theorem val_le (l : List Nat) : ∀ a : Nat, a ≤ val a l := by
  induction l with
  | nil => intro a; rw [val_nil]; exact Nat.le_refl _
  | cons r l ih =>
    intro a
    rw [val_cons]
    exact Nat.le_trans (by omega) (ih _)
theorem val_app (l m : List Nat) : ∀ a : Nat, val a (l ++ m) = val (val a l) m := by
  induction l with
  | nil => intro a; rw [val_nil, List.nil_append]
  | cons r l ih => intro a; rw [List.cons_append, val_cons, val_cons, ih]
theorem dig_range {r : Nat} (h : digB r = true) : 48 ≤ r ∧ r ≤ 57 := by unfold digB at h; simpa using h
theorem let_dig {r : Nat} (h : digB r = true) : letB r = false := by
  have := dig_range h
  unfold letB
  simp; omega
theorem let_blk {r : Nat} (h : letB r = true) : blkB r = false := by
  unfold letB at h
  unfold blkB
  simp at h ⊢; omega
theorem let_sgn {r : Nat} (h : letB r = true) : sgnB r = false := by
  unfold letB at h
  unfold sgnB
  simp at h ⊢; omega
theorem dig_blk {r : Nat} (h : digB r = true) : blkB r = false := by
  have := dig_range h
  unfold blkB
  simp; omega
theorem sgn_facts {r : Nat} (h : sgnB r = true) : letB r = false ∧ digB r = false ∧ blkB r = false ∧ okR r := by
  have h' : r = 43 ∨ r = 45 ∨ r = 42 ∨ r = 47 ∨ r = 37 ∨ r = 40 ∨ r = 41 ∨ r = 38 ∨ r = 124 ∨ r = 33 ∨ r = 61 ∨ r = 60 := by
    unfold sgnB at h
    simpa using h
  rcases h' with rfl | rfl | rfl | rfl | rfl | rfl | rfl | rfl | rfl | rfl | rfl | rfl <;> exact ⟨rfl, rfl, rfl, .inl (by omega)⟩
theorem beg_let {r p : Nat} (h : letB r = true) : beg r p = some ⟨1, [r], 0, p⟩ := by unfold beg; rw [h]; rfl
theorem beg_dig {r p : Nat} (h : digB r = true) : beg r p = some ⟨2, [], r - 48, p⟩ := by unfold beg; rw [let_dig h, h]; rfl
theorem beg_sgn {r p : Nat} (h : sgnB r = true) : beg r p = some ⟨3, [r], 0, p⟩ := by
  obtain ⟨a, b, _⟩ := sgn_facts h
  unfold beg; rw [a, b, h]; rfl
theorem keepO1 (x : List Nat) (n pl r : Nat) : keepO (some ⟨1, x, n, pl⟩) r = if letB r then .yes ⟨1, x ++ [r], n, pl⟩ else .no := rfl
theorem keepO2 (x : List Nat) (n pl r : Nat) : keepO (some ⟨2, x, n, pl⟩) r = if digB r then (if (9223372036854775807 - (r - 48)) / 10 < n then .big else .yes ⟨2, x, 10 * n + (r - 48), pl⟩) else .no := rfl
theorem keepO3 (x : List Nat) (n pl r : Nat) : keepO (some ⟨3, x, n, pl⟩) r = if x ++ [r] = [33, 61] ∨ x ++ [r] = [60, 61] then .yes ⟨3, x ++ [r], n, pl⟩ else .no := rfl
theorem keep_let {x : List Nat} {n pl r : Nat} (h : letB r = true) : keepO (some ⟨1, x, n, pl⟩) r = .yes ⟨1, x ++ [r], n, pl⟩ := by
  rw [keepO1, h, if_pos rfl]
theorem keep_nolet {x : List Nat} {n pl r : Nat} (h : letB r = false) : keepO (some ⟨1, x, n, pl⟩) r = .no := by
  rw [keepO1, h]; rfl
theorem keep_dig {x : List Nat} {n pl r : Nat} (h : digB r = true) (hn : 10 * n + (r - 48) ≤ 9223372036854775807) : keepO (some ⟨2, x, n, pl⟩) r = .yes ⟨2, x, 10 * n + (r - 48), pl⟩ := by
  have := dig_range h
  have h2 : ¬ (9223372036854775807 - (r - 48)) / 10 < n := by omega
  rw [keepO2, h, if_pos rfl, if_neg h2]
theorem keep_big {x : List Nat} {n pl r : Nat} (h : digB r = true) (hn : ¬ 10 * n + (r - 48) ≤ 9223372036854775807) : keepO (some ⟨2, x, n, pl⟩) r = .big := by
  have := dig_range h
  have h2 : (9223372036854775807 - (r - 48)) / 10 < n := by omega
  rw [keepO2, h, if_pos rfl, if_pos h2]
theorem keep_nodig {x : List Nat} {n pl r : Nat} (h : digB r = false) : keepO (some ⟨2, x, n, pl⟩) r = .no := by
  rw [keepO2, h]; rfl
theorem keep_two {x : List Nat} {n pl r : Nat} (h : x ++ [r] = [33, 61] ∨ x ++ [r] = [60, 61]) : keepO (some ⟨3, x, n, pl⟩) r = .yes ⟨3, x ++ [r], n, pl⟩ := by
  rw [keepO3, if_pos h]
theorem keep_one {x : List Nat} {n pl r : Nat} (h : ¬ (x ++ [r] = [33, 61] ∨ x ++ [r] = [60, 61])) : keepO (some ⟨3, x, n, pl⟩) r = .no := by
  rw [keepO3, if_neg h]
theorem scan_letters : ∀ (xs rest : List Nat) (done : List Tok) (x : List Nat) (n pl p : Nat), (∀ r ∈ xs, letB r = true) → scan done (some ⟨1, x, n, pl⟩) p (xs ++ rest) = scan done (some ⟨1, x ++ xs, n, pl⟩) (p + xs.length) rest
  | [], rest, done, x, n, pl, p, _ => by simp
  | r :: xs, rest, done, x, n, pl, p, h => by
    rw [List.cons_append, scan_yes (keep_let (h r List.mem_cons_self)), scan_letters xs rest done _ n pl (p + 1) (fun y hy => h y (List.mem_cons_of_mem _ hy)), List.length_cons, List.append_assoc, show p + 1 + xs.length = p + (xs.length + 1) by omega]
    rfl
theorem scan_digits : ∀ (xs rest : List Nat) (done : List Tok) (x : List Nat) (a pl p : Nat), (∀ r ∈ xs, digB r = true) → val a xs ≤ 9223372036854775807 → scan done (some ⟨2, x, a, pl⟩) p (xs ++ rest) = scan done (some ⟨2, x, val a xs, pl⟩) (p + xs.length) rest
  | [], rest, done, x, a, pl, p, _, _ => by rw [val_nil]; rfl
  | r :: xs, rest, done, x, a, pl, p, h, hv => by
    have h1 := val_le xs (10 * a + (r - 48))
    have hv' : val (10 * a + (r - 48)) xs ≤ 9223372036854775807 := by rw [← val_cons]; exact hv
    rw [List.cons_append, scan_yes (keep_dig (h r List.mem_cons_self) (by omega)), scan_digits xs rest done x _ pl (p + 1) (fun y hy => h y (List.mem_cons_of_mem _ hy)) hv', List.length_cons, val_cons, show p + 1 + xs.length = p + (xs.length + 1) by omega]
/-- A token that doesn't go on is done. -/
theorem scan_shut {done : List Tok} {t : Tok} {p : Nat} : ∀ {rest : List Nat}, (∀ r, rest.head? = some r → keepO (some t) r = .no) → scan done (some t) p rest = scan (done ++ [t]) none p rest
  | [], _ => by simp [scan_nil]
  | r :: rest, h => by
    have hk := h r rfl
    have hn : keepO none r = .no := rfl
    cases hb : blkB r with
    | true => rw [scan_blank hk hb, scan_blank hn hb]; simp
    | false =>
      cases hg : beg r p with
      | some t' => rw [scan_beg hk hb hg, scan_beg hn hb hg]; simp
      | none => rw [scan_bad hk hb hg, scan_bad hn hb hg]
/-- A name. -/
theorem scan_name {done : List Tok} {p : Nat} {xs rest : List Nat} (h0 : xs ≠ []) (h : ∀ r ∈ xs, letB r = true) (hr : ∀ r, rest.head? = some r → letB r = false) :
    scan done none p (xs ++ rest) = scan (done ++ [⟨1, xs, 0, p⟩]) none (p + xs.length) rest := by
  cases xs with
  | nil => exact absurd rfl h0
  | cons r xs =>
    have hl := h r List.mem_cons_self
    have hn : keepO none r = .no := rfl
    rw [List.cons_append, scan_beg hn (let_blk hl) (beg_let hl), scan_letters xs rest _ [r] 0 p (p + 1) (fun y hy => h y (List.mem_cons_of_mem _ hy)), scan_shut (fun x hx => keep_nolet (hr x hx)), List.length_cons, show p + 1 + xs.length = p + (xs.length + 1) by omega]
    simp
/-- Digits, some of a number's. -/
theorem scan_some {done : List Tok} {p : Nat} {xs rest : List Nat} (h0 : xs ≠ []) (h : ∀ r ∈ xs, digB r = true) (hv : val 0 xs ≤ 9223372036854775807) :
    scan done none p (xs ++ rest) = scan done (some ⟨2, [], val 0 xs, p⟩) (p + xs.length) rest := by
  cases xs with
  | nil => exact absurd rfl h0
  | cons r xs =>
    have hl := h r List.mem_cons_self
    have hn : keepO none r = .no := rfl
    have e : val (r - 48) xs = val 0 (r :: xs) := by rw [val_cons, Nat.mul_zero, Nat.zero_add]
    rw [List.cons_append, scan_beg hn (dig_blk hl) (beg_dig hl), scan_digits xs rest _ [] (r - 48) p (p + 1) (fun y hy => h y (List.mem_cons_of_mem _ hy)) (by rw [e]; exact hv), e, List.length_cons, show p + 1 + xs.length = p + (xs.length + 1) by omega]
    simp
/-- A number. -/
theorem scan_number {done : List Tok} {p : Nat} {xs rest : List Nat} (h0 : xs ≠ []) (h : ∀ r ∈ xs, digB r = true) (hv : val 0 xs ≤ 9223372036854775807) (hr : ∀ r, rest.head? = some r → digB r = false) :
    scan done none p (xs ++ rest) = scan (done ++ [⟨2, [], val 0 xs, p⟩]) none (p + xs.length) rest := by
  rw [scan_some h0 h hv, scan_shut (fun x hx => keep_nodig (hr x hx))]
/-- A number that is too great. -/
theorem scan_toobig {done : List Tok} {p r : Nat} {xs rest : List Nat} (h : ∀ y ∈ xs, digB y = true) (hd : digB r = true) (hv : val 0 xs ≤ 9223372036854775807) (hb : ¬ 10 * val 0 xs + (r - 48) ≤ 9223372036854775807) :
    scan done none p (xs ++ r :: rest) = ([], p, 71) := by
  cases xs with
  | nil =>
    have := dig_range hd
    rw [val_nil] at hb
    omega
  | cons y xs =>
    rw [scan_some (by simp) h hv, scan_big (keep_big hd hb)]
    rfl
/-- A sign. -/
theorem scan_sign {done : List Tok} {p c : Nat} {rest : List Nat} (h : sgnB c = true) (hr : ∀ r, rest.head? = some r → ¬ ([c] ++ [r] = [33, 61] ∨ [c] ++ [r] = [60, 61])) :
    scan done none p (c :: rest) = scan (done ++ [⟨3, [c], 0, p⟩]) none (p + 1) rest := by
  have hn : keepO none c = .no := rfl
  rw [scan_beg hn (sgn_facts h).2.2.1 (beg_sgn h), scan_shut (fun x hx => keep_one (hr x hx))]
  simp
theorem scan_sign2 {done : List Tok} {p c : Nat} {rest : List Nat} (h : c = 33 ∨ c = 60) : scan done none p (c :: 61 :: rest) = scan (done ++ [⟨3, [c, 61], 0, p⟩]) none (p + 2) rest := by
  have hn : keepO none c = .no := rfl
  have hs : sgnB c = true := by rcases h with rfl | rfl <;> rfl
  have hk : [c] ++ [61] = [33, 61] ∨ [c] ++ [61] = [60, 61] := by rcases h with rfl | rfl <;> simp
  rw [scan_beg hn (sgn_facts hs).2.2.1 (beg_sgn hs), scan_yes (keep_two hk), scan_shut (fun x _ => keep_one (by simp))]
  simp

/-- What a rune is: 1 a letter, 2 a digit, 3 a sign, 4 a blank, 0 nothing. -/
def cls (r : Nat) : Nat := if digB r then 2 else if blkB r then 4 else if sgnB r then 3 else if letB r then 1 else 0
theorem cls_let {r : Nat} (h : letB r = true) : cls r = 1 := by
  have hd : digB r = false := by cases hd : digB r with | false => rfl | true => rw [let_dig hd] at h; cases h
  unfold cls; rw [hd, let_blk h, let_sgn h, h]; rfl
theorem cls_dig {r : Nat} (h : digB r = true) : cls r = 2 := by unfold cls; rw [h]; rfl
theorem cls_1 {r : Nat} (h : cls r = 1) : letB r = true := by
  unfold cls at h
  split at h
  · omega
  · split at h
    · omega
    · split at h
      · omega
      · split at h
        · assumption
        · omega
theorem cls_2 {r : Nat} (h : cls r = 2) : digB r = true := by
  unfold cls at h
  split at h
  · assumption
  · split at h
    · omega
    · split at h
      · omega
      · split at h <;> omega
theorem cls_3 {r : Nat} (h : cls r = 3) : sgnB r = true := by
  unfold cls at h
  split at h
  · omega
  · split at h
    · omega
    · split at h
      · assumption
      · split at h <;> omega
theorem cls_4 {r : Nat} (h : cls r = 4) : blkB r = true := by
  unfold cls at h
  split at h
  · omega
  · split at h
    · assumption
    · split at h
      · omega
      · split at h <;> omega
theorem cls_0 {r p : Nat} (h : cls r = 0) : blkB r = false ∧ beg r p = none := by
  unfold cls at h
  unfold beg
  split at h
  · omega
  · rename_i h1
    split at h
    · omega
    · rename_i h2
      split at h
      · omega
      · rename_i h3
        split at h
        · omega
        · rename_i h4
          rw [if_neg h4, if_neg h1, if_neg h3]
          exact ⟨by simpa using h2, rfl⟩
theorem cls_le (r : Nat) : cls r ≤ 4 := by
  unfold cls
  repeat' split
  all_goals omega
end Go.Proofs.Ytnnaejkhbccnaaa.lex

/- Plain facts on tokens told as text, with blanks between them: no program's run in this file. -/
import Derived.Test.YtimjpgmgpgpanaaGreatDoorMLy
import Derived.Lib.ItoaNum
namespace Go.Proofs.YtimjpgmgpgpanaaGreatDoor.lex
set_option linter.unusedSimpArgs false
set_option linter.unusedVariables false
open nam

def digR (u : Nat) : List Nat := (Lib.decDigits u).map UInt8.toNat
theorem dec_small {u : Nat} (h : u < 10) : Lib.decDigits u = [UInt8.ofNat (48 + u)] := by rw [Lib.decDigits, dif_pos h]
theorem dec_big {u : Nat} (h : ¬ u < 10) : Lib.decDigits u = Lib.decDigits (u / 10) ++ [UInt8.ofNat (48 + u % 10)] := by rw [Lib.decDigits, dif_neg h]
theorem digR_small {u : Nat} (h : u < 10) : digR u = [48 + u] := by
  unfold digR; rw [dec_small h]; simp only [List.map_cons, List.map_nil]; rw [toNat_ofNat _ (by omega)]
theorem digR_big {u : Nat} (h : ¬ u < 10) : digR u = digR (u / 10) ++ [48 + u % 10] := by
  unfold digR; rw [dec_big h, List.map_append]; simp only [List.map_cons, List.map_nil]; rw [toNat_ofNat _ (by omega)]
theorem digR_facts (u : Nat) : (∀ r ∈ digR u, digB r = true) ∧ digR u ≠ [] ∧ val 0 (digR u) = u := by
  induction u using Nat.strongRecOn with
  | ind u ih =>
    by_cases h : u < 10
    · rw [digR_small h]
      refine ⟨fun r hr => ?_, by simp, by rw [val_cons, val_nil]; omega⟩
      simp at hr
      unfold digB
      simp; omega
    · obtain ⟨h1, h2, h3⟩ := ih (u / 10) (by omega)
      rw [digR_big h]
      refine ⟨fun r hr => ?_, by simp, by rw [val_app, h3, val_cons, val_nil]; omega⟩
      rcases List.mem_append.1 hr with hr | hr
      · exact h1 r hr
      · simp at hr
        unfold digB
        simp; omega
theorem len_snoc' {α : Type} {l : List α} {x : α} : (l ++ [x]).length = l.length + 1 := by simp
theorem dec_len : ∀ (k u : Nat), u < 10 ^ (k + 1) → (Lib.decDigits u).length ≤ k + 1
  | 0, u, h => by rw [dec_small (by simpa using h)]; simp
  | k + 1, u, h => by
    by_cases h1 : u < 10
    · rw [dec_small h1]; simp
    · rw [dec_big h1, len_snoc']
      have := dec_len k (u / 10) (by rw [Nat.pow_succ] at h; omega)
      omega
theorem digR_len {u : Nat} (h : u ≤ 9223372036854775807) : (digR u).length ≤ 20 := by
  unfold digR; rw [List.length_map]; exact dec_len 19 u (by omega)
theorem flat_ascii : ∀ (l : List UInt8), (∀ x ∈ l, x.toNat < 128) → (l.map UInt8.toNat).flatMap enc = l
  | [], _ => rfl
  | x :: l, h => by
    rw [List.map_cons, List.flatMap_cons, flat_ascii l (fun y hy => h y (List.mem_cons_of_mem _ hy))]
    have hx := h x List.mem_cons_self
    unfold enc
    rw [if_pos hx, ofNat_eq x _ rfl]; rfl
theorem text_ascii (l : List UInt8) (h : ∀ x ∈ l, x.toNat < 128) : (⟨l.toArray⟩ : ByteArray) = textOf (l.map UInt8.toNat) := by
  apply byteArray_ext
  rw [textOf_toList, flat_ascii l h]
theorem itoa_text (u : Nat) : (⟨(Lib.itoa (u : Int)).toArray⟩ : ByteArray) = textOf (digR u) := by
  have e : Lib.itoa (u : Int) = Lib.decDigits u := by unfold Lib.itoa; rw [if_neg (by omega)]; rfl
  rw [e]
  refine text_ascii _ (fun x hx => ?_)
  have := dig_range ((digR_facts u).1 x.toNat (List.mem_map_of_mem hx))
  omega
theorem textOf_app (a b : List Nat) : textOf a ++ textOf b = textOf (a ++ b) := by
  apply byteArray_ext
  rw [append_toList, textOf_toList, textOf_toList, textOf_toList, List.flatMap_append]
theorem toksO_textOf {l : List Nat} (h : ∀ r ∈ l, okR r) (hs : ¬ 400 < (textOf l).size) : toksO (textOf l) = scan [] none 0 l := by
  unfold toksO; rw [if_neg hs, rn_textOf l h]
theorem dig_ok {r : Nat} (h : digB r = true) : okR r := by have := dig_range h; unfold okR; omega

/-- LexNumbers, of the plain answers. -/
theorem numbers_of {z u : Nat} (hz : z ≤ 5) (hu : u ≤ 9223372036854775807) :
    toksO (textOf (List.replicate z 48 ++ digR u ++ [120])) = ([⟨2, [], u, 0⟩, ⟨1, [120], 0, (List.replicate z 48 ++ digR u).length⟩], 0, 0) := by
  obtain ⟨h1, h2, h3⟩ := digR_facts u
  have hz1 : ∀ r ∈ List.replicate z 48, digB r = true := fun r hr => by rw [(List.mem_replicate.1 hr).2]; rfl
  have hv0 : val 0 (List.replicate z 48) = 0 := by
    clear hz hz1
    induction z with
    | zero => rw [List.replicate_zero, val_nil]
    | succ z ih => rw [List.replicate_succ, val_cons]; exact ih
  have hall : ∀ r ∈ List.replicate z 48 ++ digR u, digB r = true := fun r hr => by
    rcases List.mem_append.1 hr with h | h
    · exact hz1 r h
    · exact h1 r h
  have hv : val 0 (List.replicate z 48 ++ digR u) = u := by rw [val_app, hv0, h3]
  have hne : List.replicate z 48 ++ digR u ≠ [] := by simp [h2]
  have hlen := digR_len hu
  rw [toksO_textOf (fun r hr => by
    rcases List.mem_append.1 hr with h | h
    · exact dig_ok (hall r h)
    · simp at h; subst h; unfold okR; omega) (by
    have := textOf_bound (List.replicate z 48 ++ digR u ++ [120]) 26 (by simp; omega)
    omega)]
  rw [scan_number hne hall (by omega) (fun r hr => by simp at hr; subst hr; rfl), hv, Nat.zero_add]
  have := scan_name (done := [] ++ [⟨2, [], u, 0⟩]) (p := (List.replicate z 48 ++ digR u).length) (xs := [120]) (rest := []) (by simp) (by intro r hr; simp at hr; subst hr; rfl) (by intro r hr; simp at hr)
  rw [List.append_nil] at this
  rw [this, scan_nil]
  simp

/-- A token's text. -/
def tokR (t : Tok) : List Nat := if t.kind = 2 then digR t.n else t.text
/-- What a told token is like. -/
def Gd (t : Tok) : Prop :=
  (t.kind = 1 ∧ t.text ≠ [] ∧ (∀ r ∈ t.text, letB r = true ∧ okR r) ∧ t.n = 0) ∨ (t.kind = 2 ∧ t.text = [] ∧ t.n ≤ 9223372036854775807) ∨
  (t.kind = 3 ∧ t.n = 0 ∧ ((∃ c, sgnB c = true ∧ t.text = [c]) ∨ t.text = [33, 61] ∨ t.text = [60, 61]))
theorem keepO_none {t : Tok} {r : Nat} {g : Goes} (h : keepO none r = g) : g = .no := h.symm
theorem gd_yes {t t' : Tok} {r : Nat} (h : Gd t) (hr : okR r) (hk : keepO (some t) r = .yes t') : Gd t' ∧ t'.place = t.place ∧ t'.text.length ≤ t.text.length + 1 := by
  obtain ⟨k, x, n, p⟩ := t
  rcases h with ⟨h1, h2, h3, h4⟩ | ⟨h1, h2, h3⟩ | ⟨h1, h2, h3⟩
  · dsimp only at h1; subst h1
    rw [keepO1] at hk
    cases hl : letB r with
    | true =>
      rw [hl, if_pos rfl] at hk
      cases hk
      refine ⟨.inl ⟨rfl, by simp, fun y hy => ?_, h4⟩, rfl, by simp⟩
      rcases List.mem_append.1 hy with hy | hy
      · exact h3 y hy
      · simp at hy; subst hy; exact ⟨hl, hr⟩
    | false => rw [hl] at hk; cases hk
  · dsimp only at h1; subst h1
    rw [keepO2] at hk
    cases hd : digB r with
    | true =>
      rw [hd, if_pos rfl] at hk
      have := dig_range hd
      split at hk
      · cases hk
      · rename_i hb
        cases hk
        exact ⟨.inr (.inl ⟨rfl, h2, by show 10 * n + (r - 48) ≤ _; omega⟩), rfl, by simp⟩
    | false => rw [hd] at hk; cases hk
  · dsimp only at h1; subst h1
    rw [keepO3] at hk
    split at hk
    · rename_i he
      cases hk
      exact ⟨.inr (.inr ⟨rfl, h2, .inr he⟩), rfl, by simp⟩
    · cases hk
theorem gd_beg {t : Tok} {r p : Nat} (hr : okR r) (hg : beg r p = some t) : Gd t ∧ t.place = p ∧ t.text.length ≤ 1 := by
  unfold beg at hg
  cases hl : letB r with
  | true => rw [hl, if_pos rfl] at hg; cases hg; exact ⟨.inl ⟨rfl, by simp, by intro y hy; simp at hy; subst hy; exact ⟨hl, hr⟩, rfl⟩, rfl, by simp⟩
  | false =>
    rw [hl, if_neg (by simp)] at hg
    cases hd : digB r with
    | true =>
      rw [hd, if_pos rfl] at hg; cases hg
      have := dig_range hd
      exact ⟨.inr (.inl ⟨rfl, rfl, by show r - 48 ≤ _; omega⟩), rfl, by simp⟩
    | false =>
      rw [hd, if_neg (by simp)] at hg
      cases hs : sgnB r with
      | true => rw [hs, if_pos rfl] at hg; cases hg; exact ⟨.inr (.inr ⟨rfl, rfl, .inl ⟨r, hs, rfl⟩⟩), rfl, by simp⟩
      | false => rw [hs, if_neg (by simp)] at hg; cases hg

/-- Places rise, and stay below p. -/
def Rises (l : List Tok) (p : Nat) : Prop := l.Pairwise (fun a b => a.place < b.place) ∧ ∀ t ∈ l, t.place < p
/-- Good tokens, not too long. -/
def Goods (l : List Tok) (p : Nat) : Prop := ∀ t ∈ l, Gd t ∧ t.text.length ≤ p
theorem Rises.more {l : List Tok} {p q : Nat} (h : Rises l p) (hq : p ≤ q) : Rises l q := ⟨h.1, fun t ht => Nat.lt_of_lt_of_le (h.2 t ht) hq⟩
theorem Goods.more {l : List Tok} {p q : Nat} (h : Goods l p) (hq : p ≤ q) : Goods l q := fun t ht => ⟨(h t ht).1, Nat.le_trans (h t ht).2 hq⟩
theorem Rises.snoc {l : List Tok} {p : Nat} {t : Tok} (h : Rises l p) (ht : t.place = p) : Rises (l ++ [t]) (p + 1) := by
  refine ⟨List.pairwise_append.2 ⟨h.1, by simp, fun a ha b hb => ?_⟩, fun y hy => ?_⟩
  · simp at hb; subst hb; have := h.2 a ha; omega
  · rcases List.mem_append.1 hy with hy | hy
    · have := h.2 y hy; omega
    · simp at hy; subst hy; omega
theorem Rises.swap {l : List Tok} {p : Nat} {t t' : Tok} (h : Rises (l ++ [t]) p) (ht : t'.place = t.place) : Rises (l ++ [t']) p := by
  obtain ⟨h1, h2⟩ := h
  obtain ⟨a, b, c⟩ := List.pairwise_append.1 h1
  refine ⟨List.pairwise_append.2 ⟨a, by simp, fun x hx y hy => ?_⟩, fun y hy => ?_⟩
  · simp at hy; subst hy; rw [ht]; exact c x hx t (by simp)
  · rcases List.mem_append.1 hy with hy | hy
    · exact h2 y (List.mem_append_left _ hy)
    · simp at hy; subst hy; rw [ht]; exact h2 t (by simp)
theorem Goods.snoc {l : List Tok} {p : Nat} {t : Tok} (h : Goods l p) (hg : Gd t) (ht : t.text.length ≤ p) : Goods (l ++ [t]) p := by
  intro y hy
  rcases List.mem_append.1 hy with hy | hy
  · exact h y hy
  · simp at hy; subst hy; exact ⟨hg, ht⟩
/-- What is told rises, and is good. -/
theorem scan_good : ∀ (L : List Nat) (done : List Tok) (cur : Option Tok) (p : Nat), (∀ r ∈ L, okR r) → Rises (done ++ cur.toList) p → Goods (done ++ cur.toList) p → Rises (scan done cur p L).1 (p + L.length) ∧ Goods (scan done cur p L).1 (p + L.length)
  | [], done, cur, p, _, h1, h2 => ⟨h1, h2⟩
  | r :: L, done, cur, p, ho, h1, h2 => by
    have hr := ho r List.mem_cons_self
    have ho' : ∀ y ∈ L, okR y := fun y hy => ho y (List.mem_cons_of_mem _ hy)
    rw [List.length_cons, show p + (L.length + 1) = p + 1 + L.length by omega]
    cases hk : keepO cur r with
    | yes t =>
      rw [scan_yes hk]
      cases cur with
      | none => cases hk
      | some t0 =>
        obtain ⟨g1, g2, g3⟩ := gd_yes (h2 t0 (by simp)).1 hr hk
        have hl := (h2 t0 (by simp)).2
        exact scan_good L done (some t) (p + 1) ho' ((h1.swap g2).more (by omega)) (Goods.snoc (fun y hy => ⟨(h2 y (List.mem_append_left _ hy)).1, by have := (h2 y (List.mem_append_left _ hy)).2; omega⟩) g1 (by omega))
    | big => rw [scan_big hk]; exact ⟨⟨by simp, by simp⟩, by intro y hy; simp at hy⟩
    | no =>
      cases hb : blkB r with
      | true =>
        rw [scan_blank hk hb]
        exact scan_good L _ none (p + 1) ho' (by simpa using h1.more (Nat.le_succ p)) (by simpa using h2.more (Nat.le_succ p))
      | false =>
        cases hg : beg r p with
        | some t =>
          rw [scan_beg hk hb hg]
          obtain ⟨g1, g2, g3⟩ := gd_beg hr hg
          exact scan_good L _ (some t) (p + 1) ho' (h1.snoc g2) (Goods.snoc (h2.more (Nat.le_succ p)) g1 (by omega))
        | none => rw [scan_bad hk hb hg]; exact ⟨⟨by simp, by simp⟩, by intro y hy; simp at hy⟩
theorem toks_good (s : ByteArray) : (toksO s).1.Pairwise (fun a b => a.place < b.place) ∧ (∀ t ∈ (toksO s).1, Gd t ∧ t.text.length ≤ 400) := by
  unfold toksO
  split
  · exact ⟨by simp, by simp⟩
  · obtain ⟨h1, h2⟩ := scan_good (rn s 0) [] none 0 (rn_ok s 0) ⟨by simp, by simp⟩ (by intro y hy; simp at hy)
    have := rn_length s 0
    exact ⟨h1.1, fun t ht => ⟨(h2 t ht).1, by have := (h2 t ht).2; omega⟩⟩

/-- Blanks. -/
def blkR (tab : Bool) : List Nat := if tab then [9, 32] else [32]
theorem blk_head (tab : Bool) (rest : List Nat) : ∃ b more, blkR tab ++ rest = b :: more ∧ blkB b = true ∧ ∀ done p, scan done none p (b :: more) = scan done none (p + (blkR tab).length) rest := by
  cases tab with
  | false => exact ⟨32, rest, rfl, rfl, fun done p => by rw [scan_blank rfl rfl]; simp [blkR]⟩
  | true => exact ⟨9, 32 :: rest, rfl, rfl, fun done p => by rw [scan_blank rfl rfl, scan_blank rfl rfl]; simp [blkR]⟩
theorem scan_tok {t : Tok} (h : Gd t) (tab : Bool) (done : List Tok) (p : Nat) (rest : List Nat) :
    scan done none p (tokR t ++ (blkR tab ++ rest)) = scan (done ++ [⟨t.kind, t.text, t.n, p⟩]) none (p + (tokR t).length + (blkR tab).length) rest := by
  obtain ⟨b, more, e, hb, hs⟩ := blk_head tab rest
  have hbl : letB b = false := by cases hl : letB b with | false => rfl | true => rw [let_blk hl] at hb; cases hb
  have hbd : digB b = false := by cases hd : digB b with | false => rfl | true => rw [dig_blk hd] at hb; cases hb
  have hb2 : b = 32 ∨ b = 9 := by unfold blkB at hb; simpa using hb
  rw [e]
  obtain ⟨k, x, n, pl⟩ := t
  rcases h with ⟨h1, h2, h3, h4⟩ | ⟨h1, h2, h3⟩ | ⟨h1, h2, h3⟩
  · dsimp only at h1 h2 h3 h4; subst h1; subst h4
    have ht : tokR ⟨1, x, 0, pl⟩ = x := rfl
    rw [ht, scan_name h2 (fun r hr => (h3 r hr).1) (fun r hr => by simp at hr; subst hr; exact hbl), hs]
  · dsimp only at h1 h2 h3; subst h1; subst h2
    have ht : tokR ⟨2, [], n, pl⟩ = digR n := rfl
    obtain ⟨d1, d2, d3⟩ := digR_facts n
    rw [ht, scan_number d2 d1 (by omega) (fun r hr => by simp at hr; subst hr; exact hbd), d3, hs]
  · dsimp only at h1 h2 h3; subst h1; subst h2
    have ht : tokR ⟨3, x, 0, pl⟩ = x := rfl
    rw [ht]
    rcases h3 with ⟨c, hc, rfl⟩ | rfl | rfl
    · rw [List.cons_append, List.nil_append, scan_sign hc (fun r hr => by simp at hr; subst hr; simp; omega), hs]; rfl
    · rw [List.cons_append, List.cons_append, List.nil_append, scan_sign2 (.inl rfl), hs]; rfl
    · rw [List.cons_append, List.cons_append, List.nil_append, scan_sign2 (.inr rfl), hs]; rfl
/-- The text of tokens. -/
def toldR (tab : Bool) : List Tok → List Nat
  | [] => []
  | t :: l => tokR t ++ (blkR tab ++ toldR tab l)
/-- A token without its place. -/
def bare (t : Tok) : Tok := ⟨t.kind, t.text, t.n, 0⟩
theorem scan_told (tab : Bool) : ∀ (l : List Tok) (done : List Tok) (p : Nat), (∀ t ∈ l, Gd t) → ∃ m, scan done none p (toldR tab l) = (done ++ m, 0, 0) ∧ m.map bare = l.map bare
  | [], done, p, _ => ⟨[], by simp [toldR, scan_nil], rfl⟩
  | t :: l, done, p, h => by
    obtain ⟨m, h1, h2⟩ := scan_told tab l (done ++ [⟨t.kind, t.text, t.n, p⟩]) (p + (tokR t).length + (blkR tab).length) (fun y hy => h y (List.mem_cons_of_mem _ hy))
    refine ⟨⟨t.kind, t.text, t.n, p⟩ :: m, ?_, by rw [List.map_cons, List.map_cons, h2]; rfl⟩
    show scan done none p (tokR t ++ (blkR tab ++ toldR tab l)) = _
    rw [scan_tok (h t List.mem_cons_self), h1]
    simp
theorem tokR_ok {t : Tok} (h : Gd t) : ∀ r ∈ tokR t, okR r := by
  obtain ⟨k, x, n, pl⟩ := t
  intro r hr
  rcases h with ⟨h1, h2, h3, h4⟩ | ⟨h1, h2, h3⟩ | ⟨h1, h2, h3⟩
  · dsimp only at h1; subst h1; exact (h3 r hr).2
  · dsimp only at h1; subst h1; exact dig_ok ((digR_facts n).1 r hr)
  · dsimp only at h1 h3; subst h1
    have hr : r ∈ x := hr
    rcases h3 with ⟨c, hc, rfl⟩ | rfl | rfl
    · simp at hr; subst hr; exact (sgn_facts hc).2.2.2
    · simp at hr; unfold okR; omega
    · simp at hr; unfold okR; omega
theorem toldR_ok (tab : Bool) : ∀ (l : List Tok), (∀ t ∈ l, Gd t) → ∀ r ∈ toldR tab l, okR r
  | [], _, r, hr => by cases hr
  | t :: l, h, r, hr => by
    rcases List.mem_append.1 hr with hr | hr
    · exact tokR_ok (h t List.mem_cons_self) r hr
    · rcases List.mem_append.1 hr with hr | hr
      · cases tab <;> (simp [blkR] at hr; unfold okR; omega)
      · exact toldR_ok tab l (fun y hy => h y (List.mem_cons_of_mem _ hy)) r hr
/-- LexBlanks, of the plain answers. -/
theorem blanks_of {l : List Tok} (h : ∀ t ∈ l, Gd t) (tab : Bool) (hs : ¬ 400 < (textOf (toldR tab l)).size) : ∃ m, toksO (textOf (toldR tab l)) = (m, 0, 0) ∧ m.map bare = l.map bare ∧ m.Pairwise (fun a b => a.place < b.place) := by
  obtain ⟨m, h1, h2⟩ := scan_told tab l [] 0 h
  have h3 := toksO_textOf (toldR_ok tab l h) hs
  rw [h1] at h3
  have h4 := (toks_good (textOf (toldR tab l))).1
  rw [h3] at h4
  exact ⟨m, by simpa using h3, h2, by simpa using h4⟩
theorem tokR_len {t : Tok} (h : Gd t) (hl : t.text.length ≤ 400) : (tokR t).length ≤ 400 := by
  unfold tokR
  by_cases hk : t.kind = 2
  · rw [if_pos hk]
    rcases h with ⟨h1, _⟩ | ⟨_, _, h3⟩ | ⟨h1, _⟩
    · omega
    · have := digR_len h3; omega
    · omega
  · rw [if_neg hk]; exact hl
theorem toldR_len (tab : Bool) : ∀ (l : List Tok), (∀ t ∈ l, Gd t ∧ t.text.length ≤ 400) → (toldR tab l).length ≤ 402 * l.length
  | [], _ => by simp [toldR]
  | t :: l, h => by
    have h1 := tokR_len (h t List.mem_cons_self).1 (h t List.mem_cons_self).2
    have h2 := toldR_len tab l (fun y hy => h y (List.mem_cons_of_mem _ hy))
    have h3 : (blkR tab).length ≤ 2 := by cases tab <;> simp [blkR]
    simp only [toldR, List.length_append, List.length_cons]
    omega
theorem toldR_snoc (tab : Bool) (t : Tok) : ∀ (l : List Tok), toldR tab (l ++ [t]) = toldR tab l ++ (tokR t ++ blkR tab)
  | [] => by simp [toldR]
  | x :: l => by simp only [List.cons_append, toldR, toldR_snoc tab t l, List.append_assoc]
end Go.Proofs.YtimjpgmgpgpanaaGreatDoor.lex

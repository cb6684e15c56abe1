/- Plain: all frames that bytes begin with, and how far they go; frames put one behind the other; no program. -/
import Derived.Test.YtbnnbaoimidfnaaFrP
namespace Go.Proofs.Ytbnnbaoimidfnaa.frm
open byt

/-- A frame: its kind and payload. -/
abbrev Fr := { x : Nat × ByteArray // x.1 < 256 ∧ x.2.size ≤ 65536 }
theorem take_fr {s : ByteArray} (h : (takeF s).2.2.2 = 0) : (takeF s).1 < 256 ∧ (takeF s).2.1.size ≤ 65536 := by
  obtain ⟨k, p, n, hx⟩ : ∃ k p n, takeF s = (k, p, n, 0) := ⟨_, _, _, by rw [← h]⟩
  obtain ⟨_, h1, h2, _⟩ := take_put hx
  rw [hx]
  exact ⟨h1, h2⟩
/-- The frames that bytes begin with, so many at most. -/
def frs : Nat → ByteArray → List Fr
  | 0, _ => []
  | f + 1, s => if h : (takeF s).2.2.2 = 0 then ⟨((takeF s).1, (takeF s).2.1), take_fr h⟩ :: frs f (s.extract (takeF s).2.2.1 s.size) else []
def all (s : ByteArray) : List Fr := frs s.size s
/-- How many bytes a frame has. -/
def fsz (x : Fr) : Nat := 1 + (sev (tf x.1.2.size)).length + x.1.2.size + 4
def whl : List Fr → Nat
  | [] => 0
  | x :: l => fsz x + whl l
theorem whl_append (l m : List Fr) : whl (l ++ m) = whl l + whl m := by
  induction l with
  | nil => simp [whl]
  | cons x l ih => rw [List.cons_append, whl, whl, ih]; omega
theorem fsz_pos (x : Fr) : 6 ≤ fsz x := by unfold fsz; have := sev_pos (tf x.1.2.size); omega
theorem fsz_le (x : Fr) : fsz x ≤ 65551 := by
  unfold fsz
  have h := x.2.2
  have := sev_ten (tf_lt (fits_size (s := x.1.2) (by omega)).1 (fits_size (s := x.1.2) (by omega)).2)
  omega
theorem whl_len (l : List Fr) : l.length ≤ whl l := by
  induction l with
  | nil => exact Nat.zero_le _
  | cons x l ih => rw [List.length_cons, whl]; have := fsz_pos x; omega
theorem whl_le (l : List Fr) : whl l ≤ 65551 * l.length := by
  induction l with
  | nil => exact Nat.zero_le _
  | cons x l ih => rw [List.length_cons, whl]; have := fsz_le x; omega
theorem rest_size (s : ByteArray) (n : Nat) : (s.extract n s.size).size = s.size - n := by rw [size_bl, bl_extract, List.length_drop]; rfl
theorem rest_rest (s : ByteArray) (a n : Nat) : (s.extract a s.size).extract n (s.extract a s.size).size = s.extract (a + n) s.size := by
  apply ba_ext
  rw [bl_extract, bl_extract, bl_extract, List.drop_drop]
theorem rest_none (s : ByteArray) : s.extract 0 s.size = s := by
  apply ba_ext
  rw [bl_extract, List.drop_zero]
theorem frs_none {s : ByteArray} (h : s.size = 0) (f : Nat) : frs f s = [] := by
  cases f with
  | zero => rfl
  | succ f =>
    have : (takeF s).2.2.2 ≠ 0 := by unfold takeF; rw [if_pos h]; simp
    rw [frs, dif_neg this]
theorem frs_fuel : ∀ (f g : Nat) (s : ByteArray), s.size ≤ f → s.size ≤ g → frs f s = frs g s
  | 0, g, s, h, _ => by rw [frs_none (by omega), frs_none (by omega)]
  | f + 1, 0, s, _, h => by rw [frs_none (by omega), frs_none (by omega)]
  | f + 1, g + 1, s, h, h' => by
    rw [frs, frs]
    by_cases hc : (takeF s).2.2.2 = 0
    · rw [dif_pos hc, dif_pos hc]
      obtain ⟨k, p, n, hx⟩ : ∃ k p n, takeF s = (k, p, n, 0) := ⟨_, _, _, by rw [← hc]⟩
      obtain ⟨_, _, _, h3, h4, _⟩ := take_put hx
      have e : (takeF s).2.2.1 = n := by rw [hx]
      congr 1
      refine frs_fuel f g _ ?_ ?_ <;> (rw [e, rest_size]; omega)
    · rw [dif_neg hc, dif_neg hc]
theorem all_end {s : ByteArray} (h : (takeF s).2.2.2 ≠ 0) : all s = [] := by
  unfold all
  cases hs : s.size with
  | zero => rfl
  | succ f => rw [frs, dif_neg h]
theorem all_step {s p : ByteArray} {k n : Nat} (h : takeF s = (k, p, n, 0)) : ∃ hx, all s = ⟨(k, p), hx⟩ :: all (s.extract n s.size) ∧ fsz ⟨(k, p), hx⟩ = n ∧ n ≤ s.size ∧ 6 ≤ n := by
  obtain ⟨_, h1, h2, h3, h4, _⟩ := take_put h
  have := sev_pos (tf p.size)
  refine ⟨⟨h1, h2⟩, ?_, by unfold fsz; simp only; omega, h3, by omega⟩
  have hc : (takeF s).2.2.2 = 0 := by rw [h]
  unfold all
  obtain ⟨f, hf⟩ : ∃ f, s.size = f + 1 := ⟨s.size - 1, by omega⟩
  have e : frs s.size s = frs (f + 1) s := by rw [hf]
  rw [e, frs, dif_pos hc, frs_fuel f (s.extract (takeF s).2.2.1 s.size).size _ (by rw [h]; simp only; rw [rest_size]; omega) (Nat.le_refl _)]
  simp only [h]
theorem all_whl (s : ByteArray) : whl (all s) ≤ s.size := by
  generalize hm : s.size = m
  induction m using Nat.strongRecOn generalizing s with
  | ind m ih =>
    by_cases hc : (takeF s).2.2.2 = 0
    · obtain ⟨k, p, n, hx⟩ : ∃ k p n, takeF s = (k, p, n, 0) := ⟨_, _, _, by rw [← hc]⟩
      obtain ⟨_, h1, h2, h3, h4⟩ := all_step hx
      rw [h1, whl, h2]
      have := ih (s.extract n s.size).size (by rw [rest_size]; omega) _ rfl
      rw [rest_size] at this
      omega
    · rw [all_end hc, whl]; omega

/-- Frames of the kind 3, one behind the other. -/
def one (p : ByteArray) : ByteArray := shut (body 3 (txt (sev (tf p.size)) ++ p))
def cat : List ByteArray → ByteArray
  | [] => txt []
  | p :: l => one p ++ cat l
theorem cat_snoc (l : List ByteArray) (p : ByteArray) : cat (l ++ [p]) = cat l ++ one p := by
  induction l with
  | nil => show one p ++ txt [] = txt [] ++ one p; rw [append_none]; exact ba_ext (by rw [bl_append, txt_bl, List.nil_append])
  | cons q l ih => rw [List.cons_append, cat, cat, ih]; exact ba_ext (by simp only [bl_append, List.append_assoc])
theorem one_size {p : ByteArray} (h : p.size ≤ 1000) : (one p).size ≤ 1015 := by
  have := sev_ten (tf_lt (fits_size (s := p) (by omega)).1 (fits_size (s := p) (by omega)).2)
  unfold one
  rw [shut_size, body_size, ByteArray.size_append, txt_size]
  omega
theorem cat_size {l : List ByteArray} (h : ∀ p ∈ l, p.size ≤ 1000) : (cat l).size ≤ 1015 * l.length := by
  induction l with
  | nil => exact Nat.le_refl _
  | cons p l ih =>
    rw [cat, ByteArray.size_append, List.length_cons]
    have h1 := one_size (h p List.mem_cons_self)
    have h2 := ih fun q hq => h q (List.mem_cons_of_mem _ hq)
    omega
theorem cat_all {l : List ByteArray} (h : ∀ p ∈ l, p.size ≤ 1000) : (all (cat l)).map (fun x => x.1.2) = l := by
  induction l with
  | nil => show (frs _ (cat [])).map _ = []; rw [frs_none rfl]; rfl
  | cons p l ih =>
    have hp := h p List.mem_cons_self
    have ht := put_take (k := 3) (p := p) (cat l) (by omega) (by omega) (by omega)
    obtain ⟨_, h1, _, _, _⟩ := all_step ht
    have e : (one p ++ cat l).extract (one p).size (one p ++ cat l).size = cat l := by
      apply ba_ext
      rw [bl_extract, bl_append, size_bl, List.drop_left]
    show (all (one p ++ cat l)).map _ = _
    unfold one at e ⊢
    rw [h1, List.map_cons, e, ih fun q hq => h q (List.mem_cons_of_mem _ hq)]
end Go.Proofs.Ytbnnbaoimidfnaa.frm

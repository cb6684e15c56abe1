/- Plain facts on keys, groups and places: no program in this text. What group.Of, Part, Place and the reference's answer: of every key. What .. -/
import Derived.RowKit
import Derived.Laws.BitsLemmas
import Derived.Test.YtepdecnegihhhaaGreatDoorRows
import Derived.WalkKit
import Derived.BigQuiet
import Derived.Handy
import Derived.Lib.Hide
import Derived.Deep.LoopGhost
import Derived.Deep.QuietTactic
import Derived.Lib.OthersKept
import Derived.OwnWalk
import Derived.Below
set_option linter.unusedSimpArgs false
set_option linter.unusedVariables false
namespace Go.Proofs.YtepdecnegihhhaaGreatDoor.grp
section
open Go.RowKit
def fits (n : Int) : Prop := -9223372036854775808 ≤ n ∧ n ≤ 9223372036854775807
def gof (k : Int) : Int := k % 8
theorem gof_in (k : Int) : 0 ≤ gof k ∧ gof k < 8 := by unfold gof; omega
theorem rem_in (k : Int) : -8 < k.tmod 8 ∧ k.tmod 8 < 8 ∧ ∃ q : Int, k.tmod 8 = k + 8 * q := by
 have h := Int.tmod_eq_emod (a := k) (b := 8)
 rw [h]
 split
 · exact ⟨by omega, by omega, -(k / 8), by omega⟩
 · rename_i hk
   have h1 : ¬ k % 8 = 0 := fun e => hk (.inr (Int.dvd_of_emod_eq_zero e))
   exact ⟨by simp; omega, by simp; omega, -(k / 8) - 1, by simp; omega⟩
theorem rem_twice (k : Int) : (k.tmod 8 + 8).tmod 8 = gof k := by
 obtain ⟨h1, h2, q, h3⟩ := rem_in k
 rw [Int.tmod_eq_emod_of_nonneg (by omega)]
 unfold gof
 omega
end
section
open Go.RowKit
theorem fits_wf {n : Int} (h : (Lit.int .i64 n).wf = true) : fits n := by
 simp [Lit.wf, IntKind.min, IntKind.max, IntKind.signed, IntKind.bits] at h
 exact ⟨by omega, by omega⟩
theorem ret_int {k : IntKind} {a b : Int} (h : a = b) : Ending.returned (.int k a) = .returned (.int k b) := by rw [h]
theorem of_any (k : Int) (w : World) (hk : fits k) : Calls Tryz.prog 68 #[.int .i64 k] w fun e w' => e = .returned (.int .i64 (gof k)) ∧ w' = w := by
 obtain ⟨h1, h2⟩ := hk
 have HT : Hid ((k.tmod 8 + 8) % 8 = gof k) := Lib.hid (by rw [← rem_twice, Int.tmod_eq_emod_of_nonneg (a := k.tmod 8 + 8) (by have := rem_in k; omega)])
 obtain ⟨r1, r2, -⟩ := rem_in k
 obtain ⟨r, hr⟩ : ∃ r, k.tmod 8 = r := ⟨_, rfl⟩
 rw [hr] at HT r1 r2
 go_enter Tryz.func68, Tryz.ntmps68
 go_wp2_with fail
 go_ret
 exact ⟨ret_int HT.out, rfl⟩
theorem ret_bool {a b : Bool} (h : a = b) : Ending.returned (.bool a) = .returned (.bool b) := by rw [h]
theorem rof_any (k : Int) (w : World) (hk : fits k) : Calls Tryz.prog 41 #[.int .i64 k] w fun e w' => e = .returned (.int .i64 (gof k)) ∧ w' = w := by
 obtain ⟨h1, h2⟩ := hk
 have HT : Hid ((k.tmod 8 + 8) % 8 = gof k) := Lib.hid (by rw [← rem_twice, Int.tmod_eq_emod_of_nonneg (a := k.tmod 8 + 8) (by have := rem_in k; omega)])
 obtain ⟨r1, r2, -⟩ := rem_in k
 obtain ⟨r, hr⟩ : ∃ r, k.tmod 8 = r := ⟨_, rfl⟩
 rw [hr] at HT r1 r2
 go_enter Tryz.func41, Tryz.ntmps41
 go_wp2_with fail
 go_ret
 exact ⟨ret_int HT.out, rfl⟩
end
section
open Go.RowKit
def intV (n : Int) : Value := .int .i64 n
theorem own_below {W W' : World} {B e size n : Nat} {v : Value} {xs : List Value} (h : W.ownsRow B e size v n xs) (hb : Below W.heap.size W W') : W'.ownsRow B e size v n xs :=
 h.kept (row := none) ⟨hb.os, hb.tape, hb.output, hb.size, fun k hk _ => hb.block k hk⟩ (by cases hv : v.ownBlock <;> simp)
theorem own_cases {w : World} {B e n : Nat} {v : Value} {xs : List Value} (h : w.ownsRow B e 1 v n xs) :
  (v = .slice none 0 0 ∧ n = 0) ∨ ∃ g cap, v = .slice (some ⟨g, 0, none⟩) n cap ∧ n ≤ cap ∧ cap ≤ maxLen ∧ B ≤ g ∧ g < w.heap.size ∧ ∀ j u, xs[j]? = some u → w.cell? ⟨g, j, none⟩ = some u := by
 rcases h.2 with h0 | ⟨g, cap, cur, rfl, hb, hg, h1, h2, h3, h4⟩
 · exact .inl h0
 · refine .inr ⟨g, cap, rfl, h1, h2, hb, (Array.getElem?_eq_some_iff.1 hg).1, fun j u hj => ?_⟩
   have := h.cells (g := g) rfl j u hj
   have hadd : (⟨g, 0, none⟩ : Addr).add j = ⟨g, j, none⟩ := by unfold Addr.add; split <;> simp_all
   rwa [hadd] at this
theorem below_on' {w w' w'' : World} (h : Below w.heap.size w w') (k : Below w'.heap.size w' w'') : Below w.heap.size w w'' := h.trans (k.mono h.size)
theorem below_made (w : World) (o : Obj) : Below w.heap.size w (w.alloc o) := (Below.refl _ _).alloc (Nat.le_refl _) _
theorem below_drewN (w : World) (q : Nat) : Below w.heap.size w (w.drewN q) := ⟨rfl, rfl, rfl, Nat.le_refl _, fun _ _ => rfl⟩
end
section
open Go.RowKit
def IRow (w : World) (v : Value) (l : List Int) : Prop :=
 ∃ a c, v = .slice a l.length c ∧ (0 < l.length → ∃ b o, a = some ⟨b, o, none⟩ ∧ b < w.heap.size ∧ ∀ i (h : i < l.length), w.cell? ⟨b, o + i, none⟩ = some (.int .i64 l[i]))
theorem irow_new (w : World) (l : List Int) (n c : Nat) (hn : l.length = n) (t : TypeId) : IRow (w.alloc (.cells (l.map intV).toArray t)) (.slice (some ⟨w.heap.size, 0, none⟩) n c) l := by
 subst hn
 refine ⟨_, c, rfl, fun _ => ⟨_, 0, rfl, by simp, fun i hi => ?_⟩⟩
 have hh : (w.alloc (.cells (l.map intV).toArray t)).heap[w.heap.size]? = some (.cells (l.map intV).toArray t (0, 0)) := heap_alloc_new w _
 rw [cell_of_row _ w.heap.size (0 + i) _ _ _ hh]
 simp [hi, intV]
def EqPost (xs ys : List Int) (w : World) (e : Ending) (w' : World) : Prop := e = .returned (.bool (decide (xs = ys))) ∧ Below w.heap.size w w'
theorem eq_yes {xs ys : List Int} {w w' : World} (h : xs = ys) (hb : Below w.heap.size w w') : EqPost xs ys w (.returned (.bool true)) w' := ⟨by rw [decide_eq_true h], hb⟩
theorem eq_no {xs ys : List Int} {w w' : World} (h : xs ≠ ys) (hb : Below w.heap.size w w') : EqPost xs ys w (.returned (.bool false)) w' := ⟨by rw [decide_eq_false h], hb⟩
def Pre (xs ys : List Int) (k : Nat) : Prop := xs.take k = ys.take k
theorem pre_more {xs ys : List Int} {k : Nat} (h : Pre xs ys k) (hk : k < xs.length) (hk2 : k < ys.length) (he : xs[k] = ys[k]) : Pre xs ys (k + 1) := by
 unfold Pre at h ⊢
 rw [List.take_succ_eq_append_getElem hk, List.take_succ_eq_append_getElem hk2, h, he]
def isP (p : Int) (x : Int) : Bool := decide (p = x)
def firstI (f : Int → Bool) : List Int → Int → Int
 | [], _ => -1
 | x :: l, k => if f x = true then k else firstI f l (k + 1)
theorem firstI_drop {f : Int → Bool} {l : List Int} {k : Nat} (hk : k < l.length) : firstI f (l.drop k) k = if f l[k] = true then (k : Int) else firstI f (l.drop (k + 1)) (k + 1) := by
 rw [List.drop_eq_getElem_cons hk]; rfl
theorem firstI_lt {f : Int → Bool} : ∀ {l : List Int} {k : Int}, 0 ≤ k → (0 ≤ firstI f l k ↔ ∃ x ∈ l, f x = true)
 | [], k, _ => by simp [firstI]
 | x :: l, k, hk => by
  have ih := firstI_lt (f := f) (l := l) (k := k + 1) (by omega)
  simp only [firstI]
  by_cases hx : f x = true
  · rw [if_pos hx]
    exact ⟨fun _ => ⟨x, by simp, hx⟩, fun _ => hk⟩
  · rw [if_neg hx, ih]
    constructor
    · rintro ⟨y, h1, h2⟩
      exact ⟨y, by simp [h1], h2⟩
    · rintro ⟨y, h1, h2⟩
      rcases List.mem_cons.1 h1 with rfl | h1
      · exact absurd h2 hx
      · exact ⟨y, h1, h2⟩
set_option maxHeartbeats 800000 in
set_option maxRecDepth 1000000 in
theorem index_any {w : World} {v : Value} {l : List Int} (h : IRow w v l) (hl : l.length ≤ 1000000) (p : Int) :
  Calls Tryz.prog 202 #[v, .int .i64 p] w fun e w' => e = .returned (.int .i64 (firstI (isP p) l 0)) ∧ w' = w := by
 obtain ⟨a, c, rfl, h2⟩ := h
 have HC := Lib.hid h2
 clear h2
 obtain ⟨n, hn⟩ : ∃ n, l.length = n := ⟨_, rfl⟩
 have HN := Lib.hid hn
 rw [hn] at hl
 rw [hn]
 clear hn
 go_enter Tryz.func202, Tryz.ntmps202
 go_wp2_with fail
 go_loopg [8] n (fun g v8 wr => ∃ k : Nat, k + g = n ∧ v8 = .int .i64 k ∧ firstI (isP p) (l.drop k) k = firstI (isP p) l 0 ∧ wr = w)
 case atStart => exact ⟨0, by omega, rfl, rfl, rfl⟩
 case round =>
  obtain ⟨k, hk, rfl, hf, rfl⟩ := hrel
  have HF := Lib.hid hf; clear hf
  by_cases hkn : k < n
  · have hkl : k < l.length := by rw [HN.out]; exact hkn
    have hki : (k : Int) < (n : Int) := by omega
    obtain ⟨b, o, rfl, _, hc⟩ := HC.out (by omega)
    have hc := hc k hkl
    have HD := Lib.hid (firstI_drop (f := isP p) (k := k) hkl)
    obtain ⟨x, hx⟩ : ∃ x, l[k] = x := ⟨_, rfl⟩
    rw [hx] at hc HD
    have HP : Hid (isP p x = decide (p = x)) := Lib.hid rfl
    clear hx hkl hkn
    by_cases hpx : p = x
    · subst hpx
      have HE : Hid (Ending.returned (.int .i64 (k : Int)) = .returned (.int .i64 (firstI (isP p) l 0))) := Lib.hid (by rw [← HF.out, HD.out, HP.out]; simp)
      go_wp2_with fail
      try rw [Exit.noGoto_ret]
      go_ret
      exact ⟨HE.out, rfl⟩
    · have hne : (p == x) = false := by rw [beq_eq_false_iff_ne]; exact hpx
      have HE : Hid (firstI (isP p) (l.drop (k + 1)) (k + 1) = firstI (isP p) l 0) := Lib.hid (by rw [← HF.out, HD.out, HP.out]; simp [hpx])
      go_wp2_with fail
      go_roundg (gk - 1)
      case rel => exact ⟨k + 1, by omega, by go_num, HE.out, rfl⟩
      case measure => omega
  · have hki : ¬ (k : Int) < (n : Int) := by omega
    have HE : Hid (Ending.returned (.int .i64 (-1)) = .returned (.int .i64 (firstI (isP p) l 0))) := Lib.hid (by rw [← HF.out, List.drop_eq_nil_of_le (by rw [HN.out]; omega)]; rfl)
    clear hkn
    go_wp2_with fail
    try rw [Exit.noGoto_ret]
    go_ret
    exact ⟨HE.out, rfl⟩
theorem contains_any {w : World} {v : Value} {l : List Int} (h : IRow w v l) (hl : l.length ≤ 1000000) (p : Int) :
  Calls Tryz.prog 177 #[v, .int .i64 p] w fun e w' => e = .returned (.bool (decide (p ∈ l))) ∧ w' = w := by
 have HI := Lib.hid (index_any h hl p)
 have HR : Hid (decide (p ∈ l) = decide (0 ≤ firstI (isP p) l 0)) := Lib.hid (by
  rw [Bool.eq_iff_iff, decide_eq_true_eq, decide_eq_true_eq, firstI_lt (by omega)]
  constructor
  · exact fun h => ⟨p, h, by simp [isP]⟩
  · rintro ⟨x, h1, h2⟩
    have : p = x := by simpa [isP] using h2
    rw [this]; exact h1)
 obtain ⟨r, hr⟩ : ∃ r, firstI (isP p) l 0 = r := ⟨_, rfl⟩
 rw [hr] at HI HR
 rw [HR.out]
 clear h hr HR
 go_enter Tryz.func177, Tryz.ntmps177
 go_wp2_with fail
 refine HI.out.mono ?_
 rintro e w1 ⟨rfl, rfl⟩
 go_wp2_with fail
 go_ret
 exact ⟨ret_bool (by simp), rfl⟩
end
end Go.Proofs.YtepdecnegihhhaaGreatDoor.grp

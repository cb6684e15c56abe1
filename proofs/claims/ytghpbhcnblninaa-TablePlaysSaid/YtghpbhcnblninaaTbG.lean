/- What Join answers, and what it leaves; Copy. -/
import Derived.Test.YtghpbhcnblninaaTbF
namespace Go.Proofs.Ytghpbhcnblninaa.tbl
set_option linter.unusedSimpArgs false
set_option linter.unusedVariables false
open Go.RowKit
attribute [local go_sem ↓] Go.wp_at_zero Go.wp_at_succ
open Go.Proofs.Ytghpbhcnblninaa.grp (gof gof_in fits fits_wf IRow intV below_on' below_made ret_bool)

def Apart (L U : Rows) : Prop := ∀ p ∈ U, look L p.1 = none
theorem mem_join {L U : Rows} {p : Int × Cl} (h : p ∈ joinL L U) : p ∈ L ∨ p ∈ U := by
  induction U generalizing L with
  | nil => exact .inl h
  | cons q U ih =>
    have h : p ∈ joinL (putL L q.1 q.2) U := h
    rcases ih h with h | h
    · rcases mem_put h with rfl | h
      · exact .inr (List.mem_cons_self ..)
      · exact .inl h
    · exact .inr (List.mem_cons_of_mem _ h)
theorem cnt_join {L U : Rows} (hL : Ord L) (hU : Ord U) (h : Apart L U) (g : Int) : cnt (joinL L U) g = cnt L g + cnt U g := by
  induction U generalizing L with
  | nil => simp [joinL, cnt_nil]
  | cons q U ih =>
    obtain ⟨h1, h2⟩ := List.pairwise_cons.1 hU
    have hq := h q (List.mem_cons_self ..)
    show cnt (joinL (putL L q.1 q.2) U) g = _
    rw [ih (ord_put hL _ _) h2 (fun p hp => by rw [look_put, if_neg (less_ne (h1 p hp))]; exact h p (List.mem_cons_of_mem _ hp)), cnt_put hL, cnt_cons]
    by_cases hg : gof q.1 = g
    · rw [if_pos ⟨hq, hg⟩, if_pos hg]; omega
    · rw [if_neg (fun e => hg e.2), if_neg hg]; omega
theorem Good.join {L U : Rows} (hL : Good L) (hU : Good U) (h : Apart L U) (hc : ∀ g : Nat, g < 8 → cnt L (g : Int) + cnt U (g : Int) ≤ 40) : Good (joinL L U) where
  ord := ord_join hL.ord
  key p hp := by rcases mem_join hp with hp | hp; exact hL.key p hp; exact hU.key p hp
  cell p hp := by rcases mem_join hp with hp | hp; exact hL.cell p hp; exact hU.cell p hp
  full g := by
    rw [cnt_join hL.ord hU.ord h]
    by_cases hg : 0 ≤ g ∧ g < 8
    · have := hc g.toNat (by omega)
      rw [show ((g.toNat : Nat) : Int) = g by omega] at this
      exact this
    · have h0 : ∀ M : Rows, cnt M g = 0 := fun M => by
        unfold cnt
        rw [List.length_eq_zero_iff, List.filter_eq_nil_iff]
        intro p _ e
        have := gof_in p.1
        simp at e
        omega
      rw [h0, h0]; omega
theorem join_two {L U : Rows} {x : Int} {c d : Cl} (hx : look U x = some c) (hd : look L x = some d) : joinO L U = (2, L) := by
  unfold joinO
  rw [if_pos]
  rw [List.any_eq_true]
  exact ⟨_, mem_look hx, by simp [hd]⟩
theorem apart_any_false {L U : Rows} (h : Apart L U) : ¬ (U.any (fun p => (look L p.1).isSome) = true) := fun e => by
  obtain ⟨p, hp, hs⟩ := List.any_eq_true.1 e
  rw [h p hp] at hs; cases hs
theorem join_full {L U : Rows} (h : Apart L U) {g : Nat} (hg : g < 8) (hc : 40 < cnt L (g : Int) + cnt U (g : Int)) : joinO L U = (7, L) := by
  unfold joinO
  rw [if_neg (apart_any_false h), if_pos]
  rw [List.any_eq_true]
  exact ⟨g, List.mem_range.2 hg, by simpa using hc⟩
theorem join_ok {L U : Rows} (h : Apart L U) (hc : ∀ g : Nat, g < 8 → cnt L (g : Int) + cnt U (g : Int) ≤ 40) : joinO L U = (0, joinL L U) := by
  unfold joinO
  rw [if_neg (apart_any_false h), if_neg]
  intro e
  obtain ⟨g, hg, hs⟩ := List.any_eq_true.1 e
  have := hc g (List.mem_range.1 hg)
  simp at hs
  omega
/-- What the first loop has seen. -/
def Seen (L U : Rows) (left : Lit → Bool) : Prop := ∀ x c, look U x = some c → left (kl x) = false → look L x = none
theorem Seen.step {L U : Rows} {left : Lit → Bool} {x : Int} (h : Seen L U left) (hx : look L x = none) : Seen L U (fun z => left z && !z.sameKey (kl x)) := fun y c hy hl => by
  simp only [same_kl] at hl
  by_cases e : y = x
  · subst e; exact hx
  · simp [e] at hl
    exact h y c hy hl
theorem Seen.end {L U : Rows} {left : Lit → Bool} (h : Seen L U left) (hU : Ord U) (hl : ∀ l, left l = false) : Apart L U := fun p hp => h p.1 p.2 (look_mem hU hp) (hl _)
/-- What the third loop has put. -/
def Put3 (L U T : Rows) (left : Lit → Bool) : Prop := ∀ x, fits x → look T x = if (look U x).isSome = true ∧ left (kl x) = false then look U x else look L x
theorem Put3.start (L : Rows) {U : Rows} {w : World} {D : DataW Value} (hD : ∀ k, fits k → CellAt w D U k) : Put3 L U L (Maps.has D) := fun x hx => by
  rw [has_look (hD x hx)]
  cases look U x <;> simp
theorem Put3.put {L U T : Rows} {left : Lit → Bool} {x : Int} {c : Cl} (h : Put3 L U T left) (hc : look U x = some c) : Put3 L U (putL T x c) (fun z => left z && !z.sameKey (kl x)) := fun y hy => by
  rw [look_put, h y hy]
  simp only [same_kl]
  by_cases e : x = y
  · subst e; simp [hc]
  · simp [e, Ne.symm e]
theorem Put3.sub {L U T : Rows} {left : Lit → Bool} (h : Put3 L U T left) (hT : Good T) (ha : Apart L U) (hU : Ord U) : ∀ k c, look T k = some c → look (joinL L U) k = some c := fun k c hk => by
  have hf := (hT.fine hk).1
  rw [h k hf] at hk
  rw [look_join hU]
  split at hk
  · rename_i e; rw [hk]; rfl
  · cases hu : look U k with
    | none => simpa using hk
    | some d =>
      have := ha _ (mem_look hu)
      rw [hk] at this; cases this
theorem Put3.room {L U T : Rows} {left : Lit → Bool} {x : Int} {c : Cl} (h : Put3 L U T left) (hT : Good T) (hJ : Good (joinL L U)) (ha : Apart L U) (hU : Good U) (hx : left (kl x) = true) (hf : fits x) (hc : look U x = some c) : putO T x c = (0, putL T x c) := by
  have hn : look T x = none := by rw [h x hf, if_neg (by rw [hx]; simp)]; exact ha _ (mem_look hc)
  have h1 := room_of hT.ord hJ.ord (h.sub hT ha hU.ord) hn (c := c) (by rw [look_join hU.ord, hc]; rfl)
  have h2 := hJ.full (gof x)
  have h3 := (hU.fine hc).2.few
  unfold putO
  rw [if_neg (by omega), if_neg (fun e => by have := e.2; omega)]
theorem Put3.end {L U T : Rows} {left : Lit → Bool} (h : Put3 L U T left) (hT : Good T) (hJ : Good (joinL L U)) (hU : Ord U) (hl : ∀ l, left l = false) : T = joinL L U := good_ext hT hJ (fun k hk => by
  rw [h k hk, look_join hU, hl]
  cases look U k <;> simp)
def JoinPost (w : World) (t b : Nat) (L U : Rows) (e : Ending) (w' : World) : Prop := e = .returned (.int .i64 (joinO L U).1) ∧ IsTab w' t b (joinO L U).2 ∧ Only (Two t b) w w'
theorem join_nil (v : Value) (w : World) : Calls Try.prog 20 #[.pointer none, v] w fun e w' => e = .returned (.int .i64 1) ∧ w' = w := by
  go_enter Try.func20, Try.ntmps20
  go_wp2_with fail
  go_ret
  exact ⟨rfl, rfl⟩
theorem join_none (t : Addr) (w : World) : Calls Try.prog 20 #[.pointer (some t), .pointer none] w fun e w' => e = .returned (.int .i64 1) ∧ w' = w := by
  go_enter Try.func20, Try.ntmps20
  go_wp2_with fail
  go_ret
  exact ⟨rfl, rfl⟩
theorem join_same {w w' : World} {t b : Nat} {L U : Rows} {x : Int} (h : IsTab w t b L) (hO : joinO L U = (x, L)) (hb : Below w.heap.size w w') : JoinPost w t b L U (.returned (.int .i64 x)) w' := by
  unfold JoinPost
  rw [hO]
  exact ⟨rfl, h.below hb, .of_below hb⟩
end Go.Proofs.Ytghpbhcnblninaa.tbl

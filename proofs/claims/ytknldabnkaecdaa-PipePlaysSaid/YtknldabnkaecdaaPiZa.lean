/- Where PipePlays stands: a pipe of the program's and one of the reference's, and what their calls do to both. -/
import Derived.Test.YtknldabnkaecdaaPiRd
import Derived.Test.YtknldabnkaecdaaPiP
import Derived.Test.YtknldabnkaecdaaPiV
namespace Go.Proofs.Ytknldabnkaecdaa.pip
set_option linter.unusedSimpArgs false
set_option linter.unusedVariables false
open Go.RowKit
theorem Ox.off {F : Nat → Prop} {w w' : World} {N : Nat} {o : Opn} (h : Ox w N o) (ho : Only F w w') (hF : ¬ F N) : Ox w' N o := h.keep (ho.block N (lt_of_get h) hF)
theorem Bx.off {F : Nat → Prop} {w w' : World} {N : Nat} {x y : Int} {u : Value} (h : Bx w N x y u) (ho : Only F w w') (hF : ¬ F N) : Bx w' N x y u := (ho.block N (lt_of_get h) hF).trans h
/-- The program's pipe with ms, the reference's with ns; below B lie the blocks of both. -/
structure Pl (w0 wr : World) (p c r room B : Nat) (L : List Value) (ms ns : List Ms) : Prop where
  pipe : IsPipe wr p c room L
  msgs : Msgs wr L ms
  ref : IsRef wr r room ns
  inn : RefIn wr r B
  slim : ∀ m ∈ ms, m.2.2.length * 24 ≤ 140737488355328
  below : Below w0.heap.size w0 wr
  lo : w0.heap.size ≤ c ∧ w0.heap.size ≤ p ∧ w0.heap.size ≤ r
  hi : c < B ∧ p < B ∧ r < B
  ne : r ≠ p ∧ r ≠ c
section
variable {w0 w w' : World} {p c r room B : Nat} {L : List Value} {ms ns : List Ms}
theorem Pl.len (h : Pl w0 w p c r room B L ms ns) : ms.length ≤ room := by rw [← h.msgs.len]; exact h.pipe.len
theorem Pl.on (h : Pl w0 w p c r room B L ms ns) (hb : Below w.heap.size w w') : Pl w0 w' p c r room B L ms ns :=
  ⟨h.pipe.below hb, h.msgs.below hb, h.ref.below hb, h.inn.keep (hb.block r h.ref.lt), h.slim, below_on' h.below hb, h.lo, h.hi, h.ne⟩
theorem Pl.rebase (h : Pl w0 w p c r room B L ms ns) : Pl w0 w p c r room w.heap.size L ms ns :=
  ⟨h.pipe, h.msgs, h.ref, h.ref.inn, h.slim, h.below, h.lo, ⟨h.pipe.lt.2, h.pipe.lt.1, h.ref.lt⟩, h.ne⟩
theorem Pl.chan (h : Pl w0 w p c r room B L ms ns) {L' : List Value} {ms' : List Ms} (hp : IsPipe w' p c room L') (hm : Msgs w' L' ms') (hs : ∀ m ∈ ms', m.2.2.length * 24 ≤ 140737488355328) (ho : Only (· = c) w w') : Pl w0 w' p c r room B L' ms' ns := by
  obtain ⟨s, q, hc⟩ := h.pipe.way
  exact ⟨hp, hm, h.ref.only h.inn h.ne.2 ho (fun k hk _ cur fr e => by rw [hk, hc] at e; cases e) (fun v rs hs => hs.chan hc ho), h.inn.keep (ho.block r h.ref.lt h.ne.2), hs,
    h.below.trans (ho.below h.below.size (fun k hk => by rw [hk]; exact h.lo.1)), h.lo, h.hi, h.ne⟩
theorem Sr.refs {v : Value} {rs : List Rc} (hs : Sr w v rs) (h : IsRef w r room ns) (ho : Only (· = r) w w') : Sr w' v rs := by
  obtain ⟨u, rows, _, h2, _⟩ := h
  exact hs.msg ho (hs.ref h2)
theorem MV.refs {v : Value} {m : Ms} (hs : MV w v m) (h : IsRef w r room ns) (ho : Only (· = r) w w') : MV w' v m := by
  obtain ⟨u, h1, h2⟩ := hs
  exact ⟨u, h1, h2.refs h ho⟩
theorem Pl.turn (h : Pl w0 w p c r room B L ms ns) {ns' : List Ms} {B' : Nat} (hB : B ≤ B') (hr : IsRef w' r room ns') (hi : RefIn w' r B') (ho : Only (· = r) w w') : Pl w0 w' p c r room B' L ms ns' :=
  ⟨h.pipe.keep (ho.block p h.pipe.lt.1 (fun e => h.ne.1 e.symm)) (ho.block c h.pipe.lt.2 (fun e => h.ne.2 e.symm)), h.msgs.mono (fun v m hv => hv.refs h.ref ho), hr, hi, h.slim,
    h.below.trans (ho.below h.below.size (fun k hk => by rw [hk]; exact h.lo.2.2)), h.lo, by have := h.hi; omega, h.ne⟩
theorem Pl.box (h : Pl w0 w p c r room B L ms ns) {N : Nat} (hN : B ≤ N) {x y : Int} {a : Option Addr} {n k : Nat} (hx : Bx w N x y (.slice a n k)) (ho : Only (· = N) w w') : Pl w0 w' p c r room B L ms ns := by
  have hh := h.hi
  have hl := h.lo
  have hsr : ∀ v rs, Sr w v rs → Sr w' v rs := fun v rs hs => hs.msg ho (hs.ne_msg hx)
  exact ⟨h.pipe.keep (ho.block p h.pipe.lt.1 (by omega)) (ho.block c h.pipe.lt.2 (by omega)), h.msgs.mono (fun v m ⟨u, h1, h2⟩ => ⟨u, h1, hsr _ _ h2⟩),
    h.ref.only h.inn (by omega) ho (fun k hk hlt => by omega) hsr, h.inn.keep (ho.block r h.ref.lt (by omega)), h.slim, h.below.trans (ho.below h.below.size (fun k hk => by omega)), h.lo, h.hi, h.ne⟩
/-- What Put answers, and what is in the pipe then. -/
noncomputable def putO (room : Nat) (ms : List Ms) (m : Ms) : Int × List Ms := if mayB m = true then if room ≤ ms.length then (7, ms) else (0, ms ++ [m]) else (2, ms)
def headO : List Ms → Ms × Int
  | [] => (zeroM, 4)
  | m :: _ => (m, 0)
theorem put_pl (h : Pl w0 w p c r room B L ms ns) {v : Value} {m : Ms} (hv : MV w v m) (hl : m.2.2.length * 24 ≤ 140737488355328) :
    Calls Try.prog 13 #[.pointer (some ⟨p, 0, none⟩), v] w fun e w' => e = .returned (.int .i64 (putO room ms m).1) ∧ (∃ L', Pl w0 w' p c r room B L' (putO room ms m).2 ns) ∧ Only (· = c) w w' ∧ MV w' v m := by
  have hlen := h.msgs.len
  by_cases hm : mayB m = true
  · by_cases hr : room ≤ ms.length
    · have he : putO room ms m = (7, ms) := by simp [putO, hm, hr]
      rw [he]
      exact (put_full h.pipe hv hl hm (by omega)).mono fun e w' hp => ⟨hp.1, ⟨L, h.on hp.2⟩, .of_below hp.2, hv.below hp.2⟩
    · have he : putO room ms m = (0, ms ++ [m]) := by simp [putO, hm, hr]
      rw [he]
      refine (put_ok h.pipe hv hl hm (by omega)).mono fun e w' hp => ?_
      obtain ⟨e1, v', h1, h2, h3⟩ := hp
      obtain ⟨s, q, hc⟩ := h.pipe.way
      exact ⟨e1, ⟨_, h.chan h1 ((h.msgs.chan h.pipe.way h3).snoc h2) (fun m' hm' => by
        rcases List.mem_append.1 hm' with h4 | h4
        · exact h.slim m' h4
        · rw [List.mem_singleton.1 h4]; exact hl) h3⟩, h3, hv.chan hc h3⟩
  · have he : putO room ms m = (2, ms) := by simp [putO, hm]
    rw [he]
    exact (put_bad p hv hl (by simpa using hm)).mono fun e w' hp => ⟨hp.1, ⟨L, h.on hp.2⟩, .of_below hp.2, hv.below hp.2⟩
theorem rput_pl (h : Pl w0 w p c r room B L ms ns) {v : Value} {m : Ms} (hv : MV w v m) (hl : m.2.2.length * 24 ≤ 140737488355328) (h8 : ns.length ≤ 8) :
    Calls Try.prog 18 #[.pointer (some ⟨r, 0, none⟩), v] w fun e w' => e = .returned (.int .i64 (putO room ns m).1) ∧ Pl w0 w' p c r room w'.heap.size L ms (putO room ns m).2 ∧ Only (· = r) w w' := by
  by_cases hm : mayB m = true
  · have hany := rput_any h.ref hv hl hm h8
    by_cases hr : room ≤ ns.length
    · have he : putO room ns m = (7, ns) := by simp [putO, hm, hr]
      rw [he]
      refine hany.mono fun e w' hp => ?_
      rw [if_pos (by omega)] at hp
      exact ⟨hp.1, (h.on hp.2).rebase, .of_below hp.2⟩
    · have he : putO room ns m = (0, ns ++ [m]) := by simp [putO, hm, hr]
      rw [he]
      refine hany.mono fun e w' hp => ?_
      rw [if_neg (by omega)] at hp
      exact ⟨hp.1, h.rebase.turn hp.2.2.size hp.2.1 hp.2.1.inn hp.2.2, hp.2.2⟩
  · have he : putO room ns m = (2, ns) := by simp [putO, hm]
    rw [he]
    exact (rput_bad r hv hl (by simpa using hm)).mono fun e w' hp => ⟨hp.1, (h.on hp.2).rebase, .of_below hp.2⟩
theorem Pl.rows (h : Pl w0 w p c r room B L ms ns) : (L = [] ∧ ms = []) ∨ ∃ v L' m ms', L = v :: L' ∧ ms = m :: ms' ∧ MV w v m ∧ Msgs w L' ms' := by
  match L, ms, h.msgs with
  | [], [], _ => exact .inl ⟨rfl, rfl⟩
  | v :: L', m :: ms', hm => exact .inr ⟨v, L', m, ms', rfl, rfl, hm.1, hm.2⟩
theorem head_pl (h : Pl w0 w p c r room B L ms ns) (h8 : room ≤ 8) :
    Calls Try.prog 9 #[.pointer (some ⟨p, 0, none⟩)] w fun e w' => ∃ v, e = .returned (.tuple #[v, .int .i64 (headO ms).2]) ∧ MV w' v (headO ms).1 ∧ (∃ L', Pl w0 w' p c r room B L' ms ns) ∧ Only (· = c) w w' := by
  rcases h.rows with ⟨rfl, rfl⟩ | ⟨v, L', m, ms', rfl, rfl, hv, hm⟩
  · exact (head_none h.pipe).mono fun e w' hp => ⟨zeroV, hp.1, MV.zero _, ⟨_, h.on hp.2⟩, .of_below hp.2⟩
  · refine (head_some h.pipe hv (h.slim m (by simp)) h8).mono fun e w' hp => ?_
    obtain ⟨v', e1, h1, h2, h3⟩ := hp
    exact ⟨v', e1, h1, ⟨_, h.chan h2 (h.msgs.chan h.pipe.way h3) h.slim h3⟩, h3⟩
theorem take_pl (h : Pl w0 w p c r room B L ms ns) :
    Calls Try.prog 10 #[.pointer (some ⟨p, 0, none⟩)] w fun e w' => ∃ v, e = .returned (.tuple #[v, .int .i64 (headO ms).2]) ∧ MV w' v (headO ms).1 ∧ (∃ L', Pl w0 w' p c r room B L' ms.tail ns) ∧ Only (· = c) w w' := by
  rcases h.rows with ⟨rfl, rfl⟩ | ⟨v, L', m, ms', rfl, rfl, hv, hm⟩
  · exact (take_none h.pipe).mono fun e w' hp => ⟨zeroV, hp.1, MV.zero _, ⟨_, h.on hp.2⟩, .of_below hp.2⟩
  · obtain ⟨a, k, rfl, hs⟩ := hv.parts
    obtain ⟨s, q, hc⟩ := h.pipe.way
    refine (take_some h.pipe).mono fun e w' hp => ?_
    obtain ⟨e1, h2, h3⟩ := hp
    exact ⟨_, e1, hv.chan hc h3, ⟨_, h.chan h2 (hm.chan h.pipe.way h3) (fun m' hm' => h.slim m' (List.mem_cons_of_mem _ hm')) h3⟩, h3⟩
theorem rhead_pl (h : Pl w0 w p c r room B L ms ns) :
    Calls Try.prog 19 #[.pointer (some ⟨r, 0, none⟩)] w fun e w' => ∃ v, e = .returned (.tuple #[v, .int .i64 (headO ns).2]) ∧ MV w' v (headO ns).1 ∧ Pl w0 w' p c r room B L ms ns ∧ Only (· = r) w w' := by
  match ns, h with
  | [], h => exact (rhead_none h.ref).mono fun e w' hp => ⟨zeroV, hp.1, MV.zero _, h.on hp.2, .of_below hp.2⟩
  | m :: ns', h => exact (rhead_some h.ref).mono fun e w' ⟨v, e1, h1, h2⟩ => ⟨v, e1, h1, h.on h2, .of_below h2⟩
theorem rtake_pl (h : Pl w0 w p c r room B L ms ns) :
    Calls Try.prog 20 #[.pointer (some ⟨r, 0, none⟩)] w fun e w' => ∃ v, e = .returned (.tuple #[v, .int .i64 (headO ns).2]) ∧ MV w' v (headO ns).1 ∧ Pl w0 w' p c r room B L ms ns.tail ∧ Only (· = r) w w' := by
  match ns, h with
  | [], h => exact (rtake_none h.ref).mono fun e w' hp => ⟨zeroV, hp.1, MV.zero _, h.on hp.2, .of_below hp.2⟩
  | m :: ns', h => exact (rtake_some h.ref).mono fun e w' ⟨v, e1, h1, h2, h3, h4⟩ => ⟨v, e1, h1, h.turn (Nat.le_refl _) h2 (h4 _ h.inn) h3, h3⟩
theorem len_pl (h : Pl w0 w p c r room B L ms ns) {n : Nat} (hn : ms.length = n) :
    Calls Try.prog 14 #[.pointer (some ⟨p, 0, none⟩)] w fun e w' => e = .returned (.int .i64 n) ∧ w' = w := by
  have := len_any h.pipe
  rwa [h.msgs.len, hn] at this
theorem room_pl (h : Pl w0 w p c r room B L ms ns) (h8 : room ≤ 8) {n : Nat} (hn : ms.length = n) :
    Calls Try.prog 15 #[.pointer (some ⟨p, 0, none⟩)] w fun e w' => e = .returned (.int .i64 ((room : Int) - n)) ∧ Below w.heap.size w w' := by
  have := room_any h.pipe h8
  rwa [h.msgs.len, hn] at this
theorem headO_slim (h : Pl w0 w p c r room B L ms ns) : (headO ms).1.2.2.length ≤ 9223372036854775806 := by
  match ms, h with
  | [], h => exact Nat.zero_le _
  | m :: ms', h => have := h.slim m (by simp); show m.2.2.length ≤ _; omega
end
end Go.Proofs.Ytknldabnkaecdaa.pip

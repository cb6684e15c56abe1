/- What TablePlays keeps: a table and the reference's, with the same rows. -/
import Derived.Test.YtghpbhcnblninaaTcT
import Derived.Test.YtghpbhcnblninaaTbN
import Derived.Test.YtghpbhcnblninaaTbI
namespace Go.Proofs.Ytghpbhcnblninaa.tbl
set_option linter.unusedSimpArgs false
set_option linter.unusedVariables false
open Go.RowKit
open Go.Proofs.Ytghpbhcnblninaa.grp (gof gof_in fits fits_wf IRow intV below_on' below_made ret_bool own_below ret_int below_drewN)
/-! The reference's operations as their callers meet them. -/
theorem rput_at {w : World} {r : Nat} {L L' : Rows} {k x c : Int} {ns : List Int} {a : Option Addr} {cap n : Nat} (hO : putO L k (x, ns) = (c, L')) (hn : ns.length = n) (h : IsRef w r L) (hk : fits k) (hx : fits x) (hns : ∀ y ∈ ns, fits y) (hs : Sl w a cap ns) :
    Calls Try.prog 23 #[.pointer (some ⟨r, 0, none⟩), .int .i64 k, .agg #[.int .i64 x, .slice a n cap]] w fun e w' => e = .returned (.int .i64 c) ∧ IsRef w' r L' ∧ Only (· = r) w w' := by
  obtain ⟨hG, rs, rfl, hr⟩ := h
  refine (rput_any hr hG hk hx hns hn hs).mono ?_
  intro e w' hp
  unfold RPutPost at hp
  rw [hO] at hp
  exact hp
theorem rdrop_at {w : World} {r : Nat} {L : Rows} {k : Int} (h : IsRef w r L) (hk : fits k) :
    Calls Try.prog 24 #[.pointer (some ⟨r, 0, none⟩), .int .i64 k] w fun e w' => e = .returned (.bool (look L k).isSome) ∧ IsRef w' r (delL L k) ∧ Only (· = r) w w' := by
  obtain ⟨hG, rs, rfl, hr⟩ := h
  exact rdrop_any hr hG hk
theorem rof_at {w : World} {r : Nat} {L : Rows} {gs : List Int} {gv : Value} (h : IsRef w r L) (hv : IRow w gv gs) (hgl : gs.length ≤ 1000000) :
    Calls Try.prog 25 #[.pointer (some ⟨r, 0, none⟩), gv] w fun e w' => ∃ u, e = .returned (.pointer (some ⟨u, 0, none⟩)) ∧ IsRef w' u (ofL L gs) ∧ w.heap.size ≤ u ∧ Below w.heap.size w w' := by
  obtain ⟨hG, rs, rfl, hr⟩ := h
  exact rof_table hr hG hv hgl
theorem rjoin_at {w : World} {r q : Nat} {L U L' : Rows} {c : Int} (hO : joinO L U = (c, L')) (h : IsRef w r L) (hU : IsRef w q U) (hne : q ≠ r) :
    Calls Try.prog 27 #[.pointer (some ⟨r, 0, none⟩), .pointer (some ⟨q, 0, none⟩)] w fun e w' => e = .returned (.int .i64 c) ∧ IsRef w' r L' ∧ Only (· = r) w w' := by
  obtain ⟨hG, rs, rfl, hr⟩ := h
  obtain ⟨hGU, us, rfl, hu⟩ := hU
  refine (rjoin_any hr hG hu hGU hne).mono ?_
  intro e w' hp
  unfold RJoinPost at hp
  rw [hO] at hp
  exact hp
theorem tjoin_at {w : World} {t b t2 b2 : Nat} {L U L' : Rows} {c : Int} (hO : joinO L U = (c, L')) (h : IsTab w t b L) (hU : IsTab w t2 b2 U) (hne : t2 ≠ t ∧ b2 ≠ b) :
    Calls Try.prog 20 #[.pointer (some ⟨t, 0, none⟩), .pointer (some ⟨t2, 0, none⟩)] w fun e w' => e = .returned (.int .i64 c) ∧ IsTab w' t b L' ∧ Only (Two t b) w w' := by
  refine (join_any h hU hne).mono ?_
  intro e w' hp
  unfold JoinPost at hp
  rw [hO] at hp
  exact hp
theorem tdrop_at {w : World} {t b : Nat} {L : Rows} {k : Int} (h : IsTab w t b L) (hk : fits k) :
    Calls Try.prog 19 #[.pointer (some ⟨t, 0, none⟩), .int .i64 k] w fun e w' => e = .returned (.bool (look L k).isSome) ∧ IsTab w' t b (delL L k) ∧ Only (Two t b) w w' := drop_any h hk
/-! What Get answers, in one form. -/
def gotO (L : Rows) (k : Int) : Cl := (look L k).getD (0, [])
theorem got_fine {L : Rows} (h : Good L) (k : Int) : (gotO L k).2.length ≤ 16 := by
  unfold gotO
  cases hl : look L k with
  | none => simp
  | some c => exact (h.fine hl).2.few
theorem get_one {w w' : World} {L : Rows} {k : Int} {e : Ending} (h : GetPost w L k e w') :
    ∃ a cap, e = .returned (.tuple #[mkC ((gotO L k).1, a, (gotO L k).2.length, cap), .bool (look L k).isSome]) ∧ NA w' a cap (gotO L k).2 ∧ Below w.heap.size w w' := by
  unfold GetPost at h
  unfold gotO
  cases hl : look L k with
  | none =>
    rw [hl] at h
    exact ⟨none, 0, h.1, NA.nil _, h.2⟩
  | some c =>
    rw [hl] at h
    obtain ⟨⟨a, cap, he, hna⟩, hb⟩ := h
    exact ⟨a, cap, he, hna, hb⟩
theorem tget_at {w : World} {t b : Nat} {L : Rows} {k x : Int} {ns : List Int} {n : Nat} {f : Bool} (hx : gotO L k = (x, ns)) (hn : ns.length = n) (hf : (look L k).isSome = f) (h : IsTab w t b L) (hk : fits k) :
    Calls Try.prog 18 #[.pointer (some ⟨t, 0, none⟩), .int .i64 k] w fun e w' => ∃ a cap, e = .returned (.tuple #[.agg #[.int .i64 x, .slice a n cap], .bool f]) ∧ NA w' a cap ns ∧ Below w.heap.size w w' := by
  refine (get_any h hk).mono fun e w' hp => ?_
  have := get_one hp
  rw [hx, hf] at this
  subst hn
  exact this
theorem rget_at {w : World} {r : Nat} {L : Rows} {k x : Int} {ns : List Int} {n : Nat} {f : Bool} (hx : gotO L k = (x, ns)) (hn : ns.length = n) (hf : (look L k).isSome = f) (h : IsRef w r L) (hk : fits k) :
    Calls Try.prog 28 #[.pointer (some ⟨r, 0, none⟩), .int .i64 k] w fun e w' => ∃ a cap, e = .returned (.tuple #[.agg #[.int .i64 x, .slice a n cap], .bool f]) ∧ NA w' a cap ns ∧ Below w.heap.size w w' := by
  obtain ⟨hG, rs, rfl, hr⟩ := h
  refine (rget_any hr hG hk).mono fun e w' hp => ?_
  have := get_one hp
  rw [hx, hf] at this
  subst hn
  exact this
theorem same_at {w : World} {x : Int} {ns : List Int} {n : Nat} {a b : Option Addr} {c d : Nat} (hn : ns.length = n) (ha : NA w a c ns) (hb : NA w b d ns) (hl : n ≤ 16) :
    Calls Try.prog 29 #[.agg #[.int .i64 x, .slice a n c], .agg #[.int .i64 x, .slice b n d]] w fun e w' => e = .returned (.bool true) ∧ Below w.heap.size w w' := by
  subst hn
  exact same_any ha hb hl
/-! The two of them. -/
structure PSt (w0 wr : World) (t b r : Nat) (L M : Rows) : Prop where
  tab : IsTab wr t b L
  rf : IsRef wr r M
  ht : w0.heap.size ≤ t
  hb : w0.heap.size ≤ b
  hr : w0.heap.size ≤ r
  below : Below w0.heap.size w0 wr
theorem PSt.on {w0 wr w' : World} {t b r : Nat} {L M : Rows} (h : PSt w0 wr t b r L M) (hb : Below wr.heap.size wr w') : PSt w0 w' t b r L M :=
  ⟨h.tab.below hb, h.rf.below hb, h.ht, h.hb, h.hr, below_on' h.below hb⟩
theorem PSt.tabStep {w0 w1 w2 : World} {t b r : Nat} {L M L' : Rows} (h : PSt w0 w1 t b r L M) (h' : IsTab w2 t b L') (ho : Only (Two t b) w1 w2) : PSt w0 w2 t b r L' M :=
  ⟨h', h.tab.ref h.rf ho, h.ht, h.hb, h.hr, below_only h.below ho h.ht h.hb⟩
theorem PSt.refStep {w0 w1 w2 : World} {t b r : Nat} {L M M' : Rows} (h : PSt w0 w1 t b r L M) (h' : IsRef w2 r M') (ho : Only (· = r) w1 w2) : PSt w0 w2 t b r L M' :=
  ⟨h.rf.tab h.tab ho, h', h.ht, h.hb, h.hr, ref.rt_only h.below ho h.hr⟩
theorem PSt.swap {w0 w1 : World} {t b t2 b2 r : Nat} {L M L' : Rows} (h : PSt w0 w1 t b r L M) (h' : IsTab w1 t2 b2 L') (ht : w0.heap.size ≤ t2) (hb : w0.heap.size ≤ b2) : PSt w0 w1 t2 b2 r L' M :=
  ⟨h', h.rf, ht, hb, h.hr, h.below⟩
theorem Box4.onlyR {w w' : World} {r N : Nat} {M : Rows} {k key acc : Int} {a : Option Addr} {n c : Nat} (h : Box4 w N k key acc a n c) (hr : IsRef w r M) (ho : Only (· = r) w w') : Box4 w' N k key acc a n c := by
  refine (ho.block N (lt_of_get h) (fun e => ?_)).trans h
  have h0 : w.heap[N]? = _ := h
  obtain ⟨rs, e2, v, h1, h2⟩ := hr.rows
  rw [e, h1] at h0; cases h0
theorem Box4.row {w : World} {N : Nat} {k key acc : Int} {a : Option Addr} {n c : Nat} (h : Box4 w N k key acc a n c) : w.rangeAt N 2 [.int .i64 acc, .slice a n c] := fun j u hj => by
  obtain ⟨-, -, h2, h3⟩ := h.facts
  match j, hj with
  | 0, hj => simp at hj; subst hj; exact h2
  | 1, hj => simp at hj; subst hj; exact h3
theorem ref_new (w : World) : IsRef (w.alloc (.cells #[.slice none 0 0] 45)) w.heap.size [] :=
  ⟨Good.nil, [], rfl, _, Go.heap_alloc_new w _, Sr.nil _, by simp⟩
theorem far_ne {w : World} {t b t2 b2 : Nat} {L : Rows} (h : IsTab w t b L) (ht : w.heap.size ≤ t2) (hb : w.heap.size ≤ b2) : t2 ≠ t ∧ b2 ≠ b := by
  have := h.lt
  omega
/-! All groups but one. -/
def restL (G : Int) (k : Nat) : List Int := ((List.range k).map (fun i : Nat => (i : Int))).filter (fun i => decide (i ≠ G))
theorem rest_snoc (G : Int) (k : Nat) : restL G (k + 1) = restL G k ++ (if (k : Int) = G then [] else [(k : Int)]) := by
  unfold restL
  rw [List.range_succ, List.map_append, List.filter_append]
  by_cases h : (k : Int) = G
  · rw [if_pos h]; simp [h]
  · rw [if_neg h]; simp [h]
theorem rest_len (G : Int) (k : Nat) : (restL G k).length ≤ k := by
  unfold restL
  have h1 := List.length_filter_le (fun i => decide (i ≠ G)) ((List.range k).map (fun i : Nat => (i : Int)))
  rw [List.length_map, List.length_range] at h1
  exact h1
theorem mem_rest (G x : Int) : x ∈ restL G 8 ↔ (0 ≤ x ∧ x < 8) ∧ x ≠ G := by
  unfold restL
  simp only [List.mem_filter, List.mem_map, List.mem_range, decide_eq_true_eq]
  constructor
  · rintro ⟨⟨i, hi, rfl⟩, hn⟩
    exact ⟨by omega, hn⟩
  · rintro ⟨⟨h0, h1⟩, hn⟩
    exact ⟨⟨x.toNat, by omega, by omega⟩, hn⟩
theorem parted_join {L : Rows} (hL : Good L) (G : Int) : joinO (ofL L (restL G 8)) (ofL L [G]) = (0, L) := by
  have hr : ∀ k, gof k ∈ restL G 8 ↔ gof k ≠ G := fun k => by
    rw [mem_rest]
    have := gof_in k
    exact ⟨fun h => h.2, fun h => ⟨⟨by omega, by omega⟩, h⟩⟩
  have ha : Apart (ofL L (restL G 8)) (ofL L [G]) := fun p hp => by
    have hp2 := (List.mem_filter.1 hp).2
    have h1 : gof p.1 = G := by simpa using hp2
    rw [look_of, if_neg (fun e => (hr p.1).1 e h1)]
  have hj : joinL (ofL L (restL G 8)) (ofL L [G]) = L := by
    refine ord_ext (ord_join (hL.of _).ord) hL.ord (fun k => ?_)
    rw [look_join (hL.of _).ord, look_of, look_of]
    by_cases h1 : gof k = G
    · rw [if_pos (by simpa using h1), if_neg (fun e => (hr k).1 e h1)]
      cases look L k <;> rfl
    · rw [if_neg (by simpa using h1), if_pos ((hr k).2 h1)]; rfl
  rw [join_ok ha (fun g hg => ?_), hj]
  rw [← cnt_join (hL.of _).ord (hL.of _).ord ha, hj]
  exact hL.full g
end Go.Proofs.Ytghpbhcnblninaa.tbl

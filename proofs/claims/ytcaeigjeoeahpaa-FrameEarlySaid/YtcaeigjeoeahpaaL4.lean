/- FrameEarly returns true of every row of payloads and every number, in whatever world, and turns nothing that was there. -/
import Derived.Test.YtcaeigjeoeahpaaL3
import Derived.Sort.CutIn
namespace Go.Proofs.Ytcaeigjeoeahpaa
open Go.RowKit Go.Shelf byt
attribute [local go_sem] Oper.semAt_some

/-- The three blocks that the call lays for its variables. -/
def Bx (B : Nat) (a : Option Addr) (n cap : Nat) (many : Int) (W : World) : Prop := Box W B (.slice a n cap) ∧ Box W (B + 1) (.int .i64 many) ∧ Box W (B + 1 + 1) (.bool false)
theorem Bx.on {B n cap : Nat} {a : Option Addr} {many : Int} {W W' : World} (h : Bx B a n cap many W) (hb : Below W.heap.size W W') : Bx B a n cap many W' := ⟨h.1.on hb, h.2.1.on hb, h.2.2.on hb⟩
theorem Bx.alloc {B n cap : Nat} {a : Option Addr} {many : Int} {W : World} (h : Bx B a n cap many W) (o : Obj) : Bx B a n cap many (W.alloc o) := ⟨h.1.alloc o, h.2.1.alloc o, h.2.2.alloc o⟩
theorem Bx.kept {B n cap : Nat} {a : Option Addr} {many : Int} {W W' : World} {row : Option Nat} (h : Bx B a n cap many W) (hg : W.grownBy W' row) (hr : ∀ r, row = some r → ∃ o : Obj, W.heap[r]? = some o ∧ o.isCells = false) : Bx B a n cap many W' :=
  ⟨h.1.kept hg hr, h.2.1.kept hg hr, h.2.2.kept hg hr⟩
theorem Bx.other {B n cap : Nat} {a : Option Addr} {many : Int} {W : World} (h : Bx B a n cap many W) {C : Nat} (hC : B + 1 + 1 < C) (u : Value) : Bx B a n cap many (W.setCell ⟨C, 0, none⟩ u) :=
  ⟨h.1.other (by omega) u, h.2.1.other (by omega) u, h.2.2.other (by omega) u⟩
theorem bx_new (w : World) (a : Option Addr) (n cap : Nat) (many : Int) :
    Bx w.heap.size a n cap many (((w.alloc (.cells #[.slice a n cap] 39)).alloc (.cells #[.int .i64 many] 3)).alloc (.cells #[.bool false] 4)) := by
  refine ⟨((box_new w _ _).alloc _).alloc _, ?_, ?_⟩
  · have := (box_new (w.alloc (.cells #[.slice a n cap] 39)) (.int .i64 many) 3).alloc (.cells #[.bool false] 4)
    rwa [World.size_alloc] at this
  · have := box_new ((w.alloc (.cells #[.slice a n cap] 39)).alloc (.cells #[.int .i64 many] 3)) (.bool false) 4
    rwa [World.size_alloc, World.size_alloc] at this
theorem below_three (w : World) (o o' o'' : Obj) : Below w.heap.size w (((w.alloc o).alloc o').alloc o'') :=
  ((below_new w o).alloc (by rw [World.size_alloc]; omega) _).alloc (by rw [World.size_alloc, World.size_alloc]; omega) _

/-- The payloads of frames. -/
def pays (l : List Fr) : List ByteArray := l.map fun x => x.1.2
theorem pays_snoc (l : List Fr) (x : Fr) : pays (l ++ [x]) = pays l ++ [x.1.2] := by unfold pays; rw [List.map_append]; rfl
theorem pays_length (l : List Fr) : (pays l).length = l.length := List.length_map ..
theorem pays_prefix {l m : List Fr} (h : l <+: m) : pays l <+: pays m := by
  obtain ⟨t, rfl⟩ := h
  exact ⟨pays t, by unfold pays; rw [List.map_append]⟩
theorem pre_on {l m : List ByteArray} {p : ByteArray} (h : m <+: l) (hl : m.length < l.length) (hp : l.getD m.length ByteArray.empty = p) : m ++ [p] <+: l := by
  obtain ⟨t, rfl⟩ := h
  cases t with
  | nil => simp at hl
  | cons y t =>
    rw [List.getD_eq_getElem?_getD, List.getElem?_append_right (Nat.le_refl _), Nat.sub_self] at hp
    simp only [List.getElem?_cons_zero, Option.getD_some] at hp
    subst hp
    exact ⟨t, by rw [List.append_assoc]; rfl⟩
theorem pre_not {l m : List ByteArray} {p : ByteArray} (hp : l.getD m.length ByteArray.empty ≠ p) : ¬ m ++ [p] <+: l := by
  rintro ⟨t, ht⟩
  apply hp
  rw [← ht, List.append_assoc, List.getD_eq_getElem?_getD, List.getElem?_append_right (Nat.le_refl _), Nat.sub_self]
  rfl
theorem take_snoc {l : List ByteArray} {k : Nat} {p : ByteArray} (hk : k < l.length) (hp : l.getD k ByteArray.empty = p) : l.take (k + 1) = l.take k ++ [p] := by
  rw [List.getD_eq_getElem?_getD, List.getElem?_eq_getElem hk] at hp
  simp only [Option.getD_some] at hp
  rw [List.take_succ_eq_append_getElem hk, hp]
theorem getD_mem {l : List ByteArray} {k : Nat} (hk : k < l.length) : l.getD k ByteArray.empty ∈ l := by
  rw [List.getD_eq_getElem?_getD, List.getElem?_eq_getElem hk]
  exact List.getElem_mem hk

set_option maxRecDepth 1000000 in
set_option maxHeartbeats 2000000 in
theorem early_guard (l : List ByteArray) (a : Option Addr) (cap : Nat) (many : Int) (w : World) (h : 100 < l.length ∨ many < 1) :
    Calls Try.prog 6 #[.slice a l.length cap, .int .i64 many] w fun e w' => e = .returned (.bool true) ∧ Below w.heap.size w w' := by
  have hX0 := bx_new w a l.length cap many
  have hB0 := below_three w (.cells #[.slice a l.length cap] 39) (.cells #[.int .i64 many] 3) (.cells #[.bool false] 4)
  by_cases h1 : 100 < l.length
  · have h1' : (100 : Int) < (l.length : Int) := by omega
    clear h
    go_enter Try.func6, Try.ntmps6
    go_wp2_with fail
    refine (works_any _).mono ?_
    rintro e w1 ⟨rfl, hb⟩
    have HX := Lib.hid (hX0.on hb)
    have HB := Lib.hid (hB0.trans (hb.mono hB0.size)); clear hb
    have c1 := HX.out.1.1
    have c2 := HX.out.2.1.1
    go_wp2_with fail
    refine (works_any _).mono ?_
    rintro e w2 ⟨rfl, hb⟩
    have HX := Lib.hid (HX.out.on hb)
    have HB := Lib.hid (below_on HB.out hb); clear hb c1 c2
    have c3 := HX.out.2.2.1
    have f3 := HX.out.2.2.2
    have HY := Lib.hid (HX.out.2.2.set (.bool true))
    go_wp2_with fail
    have hc5 := HY.out.1
    refine bodyPost_ret (v := .bool true) (by simp [results, Try.f6, go_sem, hc5]) rfl ?_
    exact ⟨rfl, HB.out.setCell (p := ⟨w.heap.size + 1 + 1, 0, none⟩) (by simp only; omega) _⟩
  · have h1' : (l.length : Int) ≤ 100 := by omega
    have h2 : many < 1 := by omega
    clear h
    go_enter Try.func6, Try.ntmps6
    go_wp2_with fail
    refine (works_any _).mono ?_
    rintro e w1 ⟨rfl, hb⟩
    have HX := Lib.hid (hX0.on hb)
    have HB := Lib.hid (hB0.trans (hb.mono hB0.size)); clear hb
    have c1 := HX.out.1.1
    have c2 := HX.out.2.1.1
    go_wp2_with fail
    refine (works_any _).mono ?_
    rintro e w2 ⟨rfl, hb⟩
    have HX := Lib.hid (HX.out.on hb)
    have HB := Lib.hid (below_on HB.out hb); clear hb c1 c2
    have c3 := HX.out.2.2.1
    have f3 := HX.out.2.2.2
    have HY := Lib.hid (HX.out.2.2.set (.bool true))
    go_wp2_with fail
    have hc5 := HY.out.1
    refine bodyPost_ret (v := .bool true) (by simp [results, Try.f6, go_sem, hc5]) rfl ?_
    exact ⟨rfl, HB.out.setCell (p := ⟨w.heap.size + 1 + 1, 0, none⟩) (by simp only; omega) _⟩
set_option maxRecDepth 1000000 in
set_option maxHeartbeats 2000000 in
theorem early_in (l : List ByteArray) (a : Option Addr) (cap : Nat) (many : Int) (w : World) (hr : sum.Rd w w.heap.size a l) (hs : ∀ p ∈ l, p.size ≤ 9223372036854775807) (hl : l.length ≤ 100) (hm : 1 ≤ many) :
    Calls Try.prog 6 #[.slice a l.length cap, .int .i64 many] w fun e w' => e = .returned (.bool true) ∧ Below w.heap.size w w' := by
  have hX0 := bx_new w a l.length cap many
  have hB0 := below_three w (.cells #[.slice a l.length cap] 39) (.cells #[.int .i64 many] 3) (.cells #[.bool false] 4)
  have hl' : (l.length : Int) ≤ 100 := by omega
  have HR := Lib.hid hr; have HS := Lib.hid hs
  clear hr hs
  refine (callsIn_wide (n := 3)).1 ?_
  refine callsIn_of_wp_marks Try.func6 rfl trivial ?_ rfl
  simp only [Try.ntmps6, List.size_toArray, List.length_cons, List.length_nil, Nat.reduceAdd, Nat.reduceSub, Array.replicate_succ, Array.replicate_zero, List.push_toArray, List.append_toArray, List.nil_append, List.cons_append]
  gi_wp2_with fail
  refine ⟨trivial, (callsIn_wide.2 (works_any _)).mono ?_⟩
  rintro e w1 ⟨rfl, hb⟩
  have HX := Lib.hid (hX0.on hb)
  have HB := Lib.hid (hB0.trans (hb.mono hB0.size)); clear hb
  have c1 := HX.out.1.1
  have c2 := HX.out.2.1.1
  clear hX0 hB0
  gi_wp2_with fail
  gi_loopw [5, 25] (fun v5 v25 wr => ∃ k : Nat, v25 = .int .i64 k ∧ k ≤ l.length ∧ v5 = .string (cat (l.take k)) ∧ (∀ p ∈ l.take k, p.size ≤ 1000) ∧ Bx w.heap.size a l.length cap many wr ∧ Below w.heap.size w wr) (fun _ v25 _ => l.length - (intOf v25).toNat)
  case atStart => exact ⟨0, rfl, Nat.zero_le _, rfl, by simp, HX.out, HB.out⟩
  case round =>
    obtain ⟨k, rfl, hk, rfl, hall, hX, hB⟩ := hrel
    have hkl : (l.take k).length = k := by rw [List.length_take]; omega
    have hcz := cat_size hall
    rw [hkl] at hcz
    by_cases hkz : k < l.length
    · have hkz' : (k : Int) < (l.length : Int) := by omega
      obtain ⟨b, o, rfl, hlt, hc⟩ := HR.out (by intro e; rw [e] at hkz; simp at hkz)
      have hck := (hB.cell (p := ⟨b, o + k, none⟩) hlt).trans (hc k hkz)
      have hps := HS.out _ (getD_mem hkz)
      obtain ⟨p, ep⟩ : ∃ p, l.getD k ByteArray.empty = p := ⟨_, rfl⟩
      rw [ep] at hck hps
      have hsn := take_snoc hkz ep
      by_cases hbig : 1000 < p.size
      · have hbig' : (1000 : Int) < (p.size : Int) := by omega
        obtain ⟨t, c, h1⟩ : ∃ t c, putF 3 p = (t, c) := ⟨_, _, rfl⟩
        have H1 := Lib.hid h1
        have HX := Lib.hid hX; have HB := Lib.hid hB
        clear h1 hX hB hall hc ep hsn hcz
        gi_wp2_with fail
        refine ⟨trivial, (callsIn_wide.2 (putF_lit (a := 3) rfl H1.out _ (by decide) hps)).mono ?_⟩
        rintro e w2 ⟨rfl, hb⟩
        have HX := Lib.hid (HX.out.on hb)
        have HB := Lib.hid (below_on HB.out hb); clear hb
        gi_wp2_with fail
        refine ⟨trivial, (callsIn_wide.2 (works_any _)).mono ?_⟩
        rintro e w3 ⟨rfl, hb⟩
        have HX := Lib.hid (HX.out.on hb)
        have HB := Lib.hid (below_on HB.out hb); clear hb
        have c3 := HX.out.2.2.1
        have f3 := HX.out.2.2.2
        have HY := Lib.hid (HX.out.2.2.set (.bool true))
        gi_wp2_with fail
        have hc5 := HY.out.1
        refine ⟨.bool true, ?_, rfl, HB.out.setCell (p := ⟨w.heap.size + 1 + 1, 0, none⟩) (by simp only; omega) _⟩
        simp [results, Try.f6, go_sem, hc5]
      · have hbig' : (p.size : Int) ≤ 1000 := by omega
        have h1 : putF 3 p = (one p, 0) := putF_fine (by omega) (by omega)
        have hoz := one_size (p := p) (by omega)
        obtain ⟨t, et⟩ : ∃ t, one p = t := ⟨_, rfl⟩
        rw [et] at h1 hoz
        obtain ⟨q, eq⟩ : ∃ q, cat (l.take k) = q := ⟨_, rfl⟩
        have HC := Lib.hid (show q ++ t = cat (l.take (k + 1)) by rw [hsn, cat_snoc, eq, et])
        have HA := Lib.hid (show ∀ p ∈ l.take (k + 1), p.size ≤ 1000 by
          intro z hz
          rw [hsn] at hz
          rcases List.mem_append.1 hz with h | h
          · exact hall z h
          · rw [List.mem_singleton.1 h]; omega)
        rw [eq] at hcz ⊢
        have H1 := Lib.hid h1
        have HX := Lib.hid hX; have HB := Lib.hid hB
        clear h1 hX hB hall hc ep hsn et eq
        gi_wp2_with fail
        refine ⟨trivial, (callsIn_wide.2 (putF_lit (a := 3) rfl H1.out _ (by decide) hps)).mono ?_⟩
        rintro e w2 ⟨rfl, hb⟩
        have HX := Lib.hid (HX.out.on hb)
        have HB := Lib.hid (below_on HB.out hb); clear hb
        gi_wp2_with fail
        go_roundw
        case rel => exact ⟨k + 1, by go_num, by omega, congrArg _ HC.out, HA.out, HX.out, HB.out⟩
        case measure => simp [intOf]; omega
    · obtain rfl : k = l.length := by omega
      rw [List.take_length] at hall hcz ⊢
      obtain ⟨s, es⟩ : ∃ s, cat l = s := ⟨_, rfl⟩
      rw [es] at hcz ⊢
      have hpay : pays (all (cat l)) = l := cat_all hall
      rw [es] at hpay
      have HP := Lib.hid hpay
      have HX := Lib.hid hX; have HB := Lib.hid hB
      clear hpay es hall hX hB
      gi_wp2_with (refine ⟨trivial, ?_⟩; gi_at_call 15; ((with_reducible refine (callsIn_wide.2 (all_in s _)).mono ?_); rintro e w' ⟨rfl, rfl⟩))
      have hsz : s.size ≤ 9223372036854775807 := by omega
      have hG := HX.out.2.2.lt
      have hfl : (all s).length = l.length := by rw [← pays_length, HP.out]
      generalize hW5 : ((wr.alloc (Obj.cells #[Value.int IntKind.i64 0] 3)).alloc (Obj.cells #[Value.string s] 9)) = W5
      have hz5 : W5.heap.size = wr.heap.size + 2 := by rw [← hW5]; simp only [World.size_alloc]
      have hX5 : Bx w.heap.size a l.length cap many W5 := by rw [← hW5]; exact (HX.out.alloc _).alloc _
      have hn5 : Box W5 wr.heap.size (.int .i64 0) := by rw [← hW5]; exact (box_new wr _ _).alloc _
      have hcs : W5.cell? ⟨wr.heap.size + 1, 0, none⟩ = some (.string s) := by
        rw [← hW5]
        have := (box_new (wr.alloc (Obj.cells #[Value.int IntKind.i64 0] 3)) (.string s) 9).1
        rwa [World.size_alloc] at this
      have hB5 : Below w.heap.size w W5 := by rw [← hW5]; exact (HB.out.alloc HB.out.size _).alloc (by rw [World.size_alloc]; omega) _
      clear hW5
      refine wpIn_rangeFunc_ownF rfl (by omega) (gf := 24) (lb := #[.pointer (some ⟨wr.heap.size + 1, 0, none⟩)]) rfl trivial (enters_of Try.func24 (by kernel_rfl) rfl)
        (all_stops _ (wr.heap.size + 1) s hsz _ (by omega) hcs) (fun _ _ => trivial) (fun _ _ _ _ _ _ _ _ => trivial) (Below.refl _ _) (fun _ => rfl)
        (fun pre W => (pays pre <+: l ∧ (pre.length : Int) < many ∧ Bx w.heap.size a l.length cap many W ∧ Box W wr.heap.size (.int .i64 (pre.length : Nat))) ∧ Below w.heap.size w W)
        (fun c pre W => (c = .ret ∧ ¬ pays pre <+: l) ∨ (c = .exit 2 ∧ (pre.length : Int) = many ∧ pays pre <+: l ∧ Bx w.heap.size a l.length cap many W ∧ Box W wr.heap.size (.int .i64 (pre.length : Nat)) ∧ Below w.heap.size w W))
        (OwnFrom.and (Own.from (fun s A B row hs hg hr => ⟨hs.1, hs.2.1, hs.2.2.1.kept hg hr, hs.2.2.2.kept hg hr⟩) _) (ownFrom_below (Nat.le_refl _) (by omega)))
        (fun c s A B row hs hg hr => hs.elim (fun h => .inl h) (fun h => .inr ⟨h.1, h.2.1, h.2.2.1, h.2.2.2.1.kept hg (fun r e => (hr r e).2), h.2.2.2.2.1.kept hg (fun r e => (hr r e).2), ownFrom_below (n₀ := w.heap.size) (B := W5.heap.size) (w₀ := w) (Nat.le_refl _) (by omega) s A B row h.2.2.2.2.2 hg hr⟩))
        ⟨⟨List.nil_prefix, by simp only [List.length_nil]; omega, hX5, hn5⟩, hB5⟩
        ?a1 ?assign ?body ?done ?stop
      case assign =>
        intro lp x W K hK
        gi_wp2
        exact hK
      case body =>
        rintro lp pre x W ⟨⟨hpre, hpm, hX, hn⟩, hB⟩ hlen
        rw [hfl] at hlen
        have HPM := Lib.hid hpm
        have hml := pays_length pre
        obtain ⟨b, o, rfl, hlt, hc⟩ := HR.out (by intro e; rw [e] at hlen; simp at hlen)
        have hck := (hB.cell (p := ⟨b, o + pre.length, none⟩) hlt).trans (hc pre.length hlen)
        obtain ⟨y, ey⟩ : ∃ y, l.getD pre.length ByteArray.empty = y := ⟨_, rfl⟩
        rw [ey] at hck
        have hlen' : (pre.length : Int) < (l.length : Int) := by omega
        have cs := hX.1.1
        have cm := hX.2.1.1
        have c0 := hX.2.2.1
        have f0 := hX.2.2.2
        have cn := hn.1
        have fn := hn.2
        have hw : wrap64 ((pre.length : Int) + 1) = (pre.length : Int) + 1 := by unfold wrap64; omega
        have HL2 := Lib.hid (show ((pre ++ [x]).length : Int) = (pre.length : Int) + 1 by rw [List.length_append]; rfl)
        have HM := Lib.hid (pays_snoc pre x)
        have HS2 := Lib.hid (hn.set (.int .i64 ((pre.length : Int) + 1)))
        have HX2 := Lib.hid (hX.other hG (.int .i64 ((pre.length : Int) + 1)))
        have HB2 := Lib.hid (hB.setCell (p := ⟨wr.heap.size, 0, none⟩) (by simp only; omega) (.int .i64 ((pre.length : Int) + 1)))
        have HK2 := Lib.hid (KeepsOthers.setCell W ⟨wr.heap.size, 0, none⟩ (.int .i64 ((pre.length : Int) + 1)))
        clear hc
        by_cases hxy : y = x.1.2
        · have hpx := pre_on (p := x.1.2) hpre (by rw [hml]; exact hlen) (by rw [hml]; exact ey.trans hxy)
          rw [← HM.out] at hpx
          have HPX := Lib.hid hpx
          clear hpx
          rw [hxy] at hck
          clear hxy ey
          gi_upto_if 61 with fail
          refine wpIn_cond_false (show Value.bool (decide (l.length ≤ pre.length)) = Value.bool false by rw [decide_eq_false (Nat.not_le.2 hlen)]) ?_
          clear hml hlt hpm hlen hlen' hfl hz5 hG hsz hcz
          gi_upto_region 20 with fail
          generalize W.setCell ⟨wr.heap.size, 0, none⟩ (.int .i64 ((pre.length : Int) + 1)) = W2 at HS2 HX2 HB2 HK2 ⊢
          clear cs cm c0 f0 cn fn hX hn hB hck hw
          have cn2 := HS2.out.1
          have cm2 := HX2.out.2.1.1
          gi_wp2
          · rename_i hbr
            have hbr' : (pre.length : Int) + 1 = many := by first | exact hbr | exact beq_iff_eq.1 hbr
            exact ⟨HK2.out, .inr ⟨rfl, by rw [HL2.out]; exact hbr', HPX.out, HX2.out, by rw [HL2.out]; exact HS2.out, HB2.out⟩⟩
          · rename_i hbr
            have hbr' : (pre.length : Int) + 1 ≠ many := by first | exact hbr | exact beq_eq_false_iff_ne.1 hbr
            exact ⟨HK2.out, trivial, ⟨HPX.out, by rw [HL2.out]; have := HPM.out; omega, HX2.out, by rw [HL2.out]; exact HS2.out⟩, HB2.out⟩
        · have hpx := pre_not (l := l) (m := pays pre) (p := x.1.2) (by rw [hml, ey]; exact hxy)
          rw [← HM.out] at hpx
          have HPX := Lib.hid hpx
          clear hpx
          have b2 := str_ne (fun e => hxy (Eq.symm e))
          gi_wp2
          exact ⟨KeepsOthers.setCell _ _ _, .inl ⟨rfl, HPX.out⟩⟩
      case done =>
        rintro D ys W hD rfl ⟨⟨hpre, hpm, hX, hn⟩, hB⟩ hK
        rw [hfl] at hpm hn
        have cs := hX.1.1
        have cm := hX.2.1.1
        have cn := hn.1
        have hmin : min many (l.length : Int) = (l.length : Int) := by omega
        gi_wp2_with fail
        refine ⟨trivial, (callsIn_wide.2 (works_any _)).mono ?_⟩
        rintro e w7 ⟨rfl, hb7⟩
        have HK := Lib.hid ((hb7.block D (Array.getElem?_eq_some_iff.1 hK).1).trans hK)
        have H0 := Lib.hid (hX.2.2.on hb7)
        have HB := Lib.hid (hB.trans (hb7.mono hB.size))
        clear hb7 hK cs cn cm hX hB hn
        have c0 := H0.out.1
        have f0 := H0.out.2
        gi_wp2_with fail
        have hK' := (KeepsOthers.setCell w7 ⟨w.heap.size + 1 + 1, 0, none⟩ (.bool true)).same D _ HK.out rfl
        refine ⟨by simp, .inl ⟨_, _, rfl, run_takeDeferred hK', ?_⟩⟩
        have hc5 := ((H0.out.set (.bool true)).kept (grownBy_putObj' _ D (.deferred none)) (fun r e => by cases e; exact ⟨_, hK', rfl⟩)).1
        refine ⟨.bool true, ?_, rfl, (HB.out.setCell (p := ⟨w.heap.size + 1 + 1, 0, none⟩) (by simp only; omega) _).trans (belowK_b (w := w) (Nat.le_refl _) _ D _ _ (by omega) hK' rfl rfl)⟩
        simp [results, Try.f6, go_sem, hc5]
      case stop =>
        rintro D c pre W hD hp (⟨rfl, h⟩ | ⟨rfl, hpm, hpre, hX, hn, hB⟩) hK
        · exact absurd (by rw [← HP.out]; exact pays_prefix hp) h
        · have hpl := hpre.length_le
          rw [pays_length] at hpl
          have cs := hX.1.1
          have cm := hX.2.1.1
          have cn := hn.1
          have hmin : min many (l.length : Int) = many := by omega
          gi_wp2_with fail
          refine ⟨trivial, (callsIn_wide.2 (works_any _)).mono ?_⟩
          rintro e w7 ⟨rfl, hb7⟩
          have HK := Lib.hid ((hb7.block D (Array.getElem?_eq_some_iff.1 hK).1).trans hK)
          have H0 := Lib.hid (hX.2.2.on hb7)
          have HB := Lib.hid (hB.trans (hb7.mono hB.size))
          clear hb7 hK cs cn cm hX hB hn
          have c0 := H0.out.1
          have f0 := H0.out.2
          gi_wp2_with fail
          have hK' := (KeepsOthers.setCell w7 ⟨w.heap.size + 1 + 1, 0, none⟩ (.bool true)).same D _ HK.out rfl
          refine ⟨by simp, .inl ⟨_, _, rfl, run_takeDeferred hK', ?_⟩⟩
          have hc5 := ((H0.out.set (.bool true)).kept (grownBy_putObj' _ D (.deferred none)) (fun r e => by cases e; exact ⟨_, hK', rfl⟩)).1
          refine ⟨.bool true, ?_, rfl, (HB.out.setCell (p := ⟨w.heap.size + 1 + 1, 0, none⟩) (by simp only; omega) _).trans (belowK_b (w := w) (Nat.le_refl _) _ D _ _ (by omega) hK' rfl rfl)⟩
          simp [results, Try.f6, go_sem, hc5]
theorem law_early (l : List ByteArray) (a : Option Addr) (cap : Nat) (many : Int) (w : World) (hr : sum.Rd w w.heap.size a l) (hs : ∀ p ∈ l, p.size ≤ 9223372036854775807) :
    Calls Try.prog 6 #[.slice a l.length cap, .int .i64 many] w fun e w' => e = .returned (.bool true) ∧ Below w.heap.size w w' := by
  by_cases h : 100 < l.length ∨ many < 1
  · exact early_guard l a cap many w h
  · exact early_in l a cap many w hr hs (by omega) (by omega)
end Go.Proofs.Ytcaeigjeoeahpaa

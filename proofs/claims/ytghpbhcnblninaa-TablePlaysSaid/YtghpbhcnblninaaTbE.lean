/- slices.Equal of rows of int64; what works answers. -/
import Derived.Test.YtghpbhcnblninaaTbKb
namespace Go.Proofs.Ytghpbhcnblninaa.tbl
set_option linter.unusedSimpArgs false
set_option linter.unusedVariables false
open Go.RowKit
open Go.Proofs.Ytghpbhcnblninaa.grp (gof gof_in fits fits_wf IRow intV below_on' below_made ret_bool irow_new below_drewN EqPost eq_yes eq_no Pre pre_more)

set_option maxHeartbeats 800000 in
set_option maxRecDepth 1000000 in
theorem equal_nums {xs ys : List Int} {u v : Value} {w : World} (h : IRow w u xs) (h' : IRow w v ys) (hl : xs.length ≤ 1000000) (hl' : ys.length ≤ 1000000) :
    Calls Try.prog 15 #[u, v] w (EqPost xs ys w) := by
  obtain ⟨a, c, rfl, h⟩ := h
  obtain ⟨a', c', rfl, h'⟩ := h'
  by_cases hlen : xs.length = ys.length
  · have HX := Lib.hid h; have HY := Lib.hid h'; have HLEN := Lib.hid hlen
    have hn : ((xs.length : Int) != (ys.length : Int)) = false := by simp; omega
    clear h h' hlen
    go_enter Try.func15, Try.ntmps15
    go_wp2
    go_loopg [13] xs.length (fun g v13 wr => ∃ k : Nat, k + g = xs.length ∧ v13 = .int .i64 k ∧ Pre xs ys k ∧ Below w.heap.size w wr)
    case atStart => exact ⟨0, by omega, rfl, rfl, Below.refl _ _⟩
    case round =>
      obtain ⟨k, hkg, rfl, hp, hb⟩ := hrel
      have HP := Lib.hid hp; have HB := Lib.hid hb
      clear hp hb
      have hle := HLEN.out
      cases gk with
      | zero =>
        have hkz : ¬ ((k : Int) < (xs.length : Int)) := by omega
        have HE := Lib.hid (show xs = ys by
          have := HP.out
          unfold Pre at this
          rwa [List.take_of_length_le (by omega), List.take_of_length_le (by omega)] at this)
        clear hle
        go_wp2
        go_ret
        exact eq_yes HE.out HB.out
      | succ g =>
        have hkz : (k : Int) < (xs.length : Int) := by omega
        have hkz' : (k : Int) < (ys.length : Int) := by omega
        have hk0 : (0 : Int) ≤ (k : Int) := by omega
        have hkx : k < xs.length := by omega
        have hky : k < ys.length := by omega
        obtain ⟨b, o, rfl, hlt, hc⟩ := HX.out (by omega)
        obtain ⟨b', o', rfl, hlt', hc'⟩ := HY.out (by omega)
        have hck := (HB.out.cell (p := ⟨b, o + k, none⟩) hlt).trans (hc k hkx)
        have hck' := (HB.out.cell (p := ⟨b', o' + k, none⟩) hlt').trans (hc' k hky)
        have HM := Lib.hid (fun he => pre_more HP.out hkx hky he)
        obtain ⟨x, ex⟩ : ∃ x, xs[k] = x := ⟨_, rfl⟩
        obtain ⟨y, ey⟩ : ∃ y, ys[k] = y := ⟨_, rfl⟩
        rw [ex, ey] at HM
        rw [ex] at hck
        rw [ey] at hck'
        have HNE : Hid (x ≠ y → xs ≠ ys) := Lib.hid (fun hxy e => hxy (by rw [← ex, ← ey]; exact List.getElem_of_eq e hkx))
        clear hc hc' ex ey hle hkx hky
        by_cases hxy : x = y
        · have HM2 := Lib.hid (HM.out hxy)
          subst hxy
          go_wp2
          go_quiet (fail)
          go_wp2
          go_roundg g
          case measure => omega
          case rel => exact ⟨k + 1, by omega, by go_num, HM2.out, HB.out.trans ((below_drewN _ _).mono HB.out.size)⟩
        · have hne : (x != y) = true := by simp [hxy]
          have hne2 : (x == y) = false := by simp [hxy]
          have HE := Lib.hid (HNE.out hxy)
          clear hxy
          go_wp2
          go_quiet (fail)
          go_wp2
          go_ret
          exact eq_no HE.out (HB.out.trans ((below_drewN _ _).mono HB.out.size))
  · have hn : ((xs.length : Int) != (ys.length : Int)) = true := by simp; omega
    have HE := Lib.hid (show xs ≠ ys from fun e => hlen (by rw [e]))
    clear hlen
    go_enter Try.func15, Try.ntmps15
    go_wp2
    go_ret
    exact eq_no HE.out (Below.refl _ _)
theorem equal_nums_same {l : List Int} {u v : Value} {w : World} (h : IRow w u l) (h' : IRow w v l) (hl : l.length ≤ 1000000) :
    Calls Try.prog 15 #[u, v] w fun e w' => e = .returned (.bool true) ∧ Below w.heap.size w w' :=
  (equal_nums h h' hl hl).mono fun _ _ hp => ⟨by rw [hp.1]; simp, hp.2⟩
theorem NA.irow {w : World} {a : Option Addr} {cap : Nat} {l : List Int} (h : NA w a cap l) : IRow w (.slice a l.length cap) l := h.1.irow
theorem sl_new (w : World) (l : List Int) (t : TypeId) (c : Nat) : Sl (w.alloc (.cells (l.map intV).toArray t)) (some ⟨w.heap.size, 0, none⟩) c l :=
  ⟨fun e => (by cases e), fun hl => ⟨w.heap.size, 0, rfl, by simp, fun i hi => by
    rw [cell_of_row _ w.heap.size (0 + i) _ _ _ (Go.heap_alloc_new w _)]
    simp [hi, intV]⟩⟩
theorem lt_ne_blk {w : World} {t : Nat} (h : t < w.heap.size) (l : Nat) (c : Nat) : ∀ ad : Addr, (some ⟨w.heap.size, 0, none⟩ : Option Addr) = some ad → ad.block ≠ t := fun ad e => by
  obtain rfl := Option.some.inj e
  show w.heap.size ≠ t
  omega
theorem none_blk (t : Nat) : ∀ ad : Addr, (none : Option Addr) = some ad → ad.block ≠ t := fun ad e => by cases e
/-- Put as its callers meet it. -/
theorem put_at {w : World} {t b : Nat} {L L' : Rows} {k x c : Int} {ns : List Int} {a : Option Addr} {cap n : Nat} (hO : putO L k (x, ns) = (c, L')) (hn : ns.length = n) (h : IsTab w t b L) (hk : fits k) (hx : fits x) (hns : ∀ y ∈ ns, fits y) (hs : Sl w a cap ns) (hat : 0 < ns.length → ∀ ad, a = some ad → ad.block ≠ t) (hl : ns.length ≤ 1000) :
    Calls Try.prog 14 #[.pointer (some ⟨t, 0, none⟩), .int .i64 k, .agg #[.int .i64 x, .slice a n cap]] w fun e w' => e = .returned (.int .i64 c) ∧ IsTab w' t b L' ∧ Only (Two t b) w w' := by
  subst hn
  refine (put_any h hk hx hns hs hat hl).mono ?_
  intro e w' hp
  unfold PutPost at hp
  rw [hO] at hp
  exact hp
theorem keys_at {w : World} {t b : Nat} {L : Rows} {l : List Int} (hl : L.map Prod.fst = l) (h : IsTab w t b L) : Calls Try.prog 17 #[.pointer (some ⟨t, 0, none⟩)] w fun e w' => ∃ v, e = .returned v ∧ IRow w' v l ∧ Below w.heap.size w w' := by
  refine (keys_any h).mono ?_
  rintro e w' ⟨a, cap, rfl, hna, hb⟩
  subst hl
  have := hna.irow
  rw [List.length_map] at this
  exact ⟨_, rfl, this, hb⟩
theorem below_only {w0 w w' : World} {t b : Nat} (h : Below w0.heap.size w0 w) (ho : Only (Two t b) w w') (ht : w0.heap.size ≤ t) (hb : w0.heap.size ≤ b) : Below w0.heap.size w0 w' :=
  h.trans (ho.below h.size (fun k hk => by rcases hk with rfl | rfl <;> assumption))
theorem fits_small {n : Int} (h0 : -1000000 ≤ n) (h1 : n ≤ 1000000) : fits n := ⟨by omega, by omega⟩
set_option maxHeartbeats 800000 in
theorem works_any (w : World) : Calls Try.prog 12 #[] w fun e w' => e = .returned (.bool true) ∧ Below w.heap.size w w' := by
  have O1 : Hid (putO [] 8 (1, []) = (0, [(8, (1, []))])) := Lib.hid (by decide)
  have O2 : Hid (putO [(8, (1, []))] 0 (2, []) = (0, [(0, (2, [])), (8, (1, []))])) := Lib.hid (by decide)
  have O3 : Hid (putO [(0, (2, [])), (8, (1, []))] 1 (0, [5]) = (0, [(0, (2, [])), (8, (1, [])), (1, (0, [5]))])) := Lib.hid (by decide)
  go_enter Try.func12, Try.ntmps12
  go_wp2_with fail
  refine (new_any w).mono ?_
  rintro e w1 ⟨t, b, rfl, ht, hwt, hwb, hb⟩
  have HT := Lib.hid ht
  have HB := Lib.hid hb
  clear ht hb
  go_wp2_with fail
  refine (put_at O1.out rfl HT.out (fits_small (by omega) (by omega)) (fits_small (by omega) (by omega)) (by simp) (Sl.nil _) (fun _ => none_blk _) (by simp)).mono ?_
  rintro e w2 ⟨rfl, ht, ho⟩
  have HT := Lib.hid ht
  have HB := Lib.hid (below_only HB.out ho hwt hwb)
  clear ht ho
  go_wp2_with fail
  refine (put_at O2.out rfl HT.out (fits_small (by omega) (by omega)) (fits_small (by omega) (by omega)) (by simp) (Sl.nil _) (fun _ => none_blk _) (by simp)).mono ?_
  rintro e w3 ⟨rfl, ht, ho⟩
  have HT := Lib.hid ht
  have HB := Lib.hid (below_only HB.out ho hwt hwb)
  clear ht ho
  go_wp2_with fail
  refine (put_at O3.out rfl (HT.out.below (below_made _ _)) (fits_small (by omega) (by omega)) (fits_small (by omega) (by omega)) (by simp [fits]) (sl_new w3 [5] _ 1) (fun _ => lt_ne_blk HT.out.lt.1 1 1) (by simp)).mono ?_
  rintro e w4 ⟨rfl, ht, ho⟩
  have HT := Lib.hid ht
  have HB := Lib.hid (below_only (below_on' HB.out (below_made _ _)) ho hwt hwb)
  clear ht ho
  go_wp2_with fail
  refine (keys_at (l := [0, 8, 1]) rfl HT.out).mono ?_
  rintro e w5 ⟨v, rfl, hr, hb⟩
  have HR := Lib.hid hr
  have HB := Lib.hid (below_on' HB.out hb)
  clear hr hb
  go_wp2_with fail
  refine (equal_nums_same (HR.out.on (below_made _ _)) (irow_new w5 [0, 8, 1] 3 3 rfl _) (by decide)).mono ?_
  rintro e w6 ⟨rfl, hb⟩
  have HB := Lib.hid (below_on' HB.out (below_on' (below_made _ _) hb))
  clear hb
  go_wp2_with fail
  go_ret
  exact ⟨rfl, HB.out⟩
end Go.Proofs.Ytghpbhcnblninaa.tbl

/- What the reference's less, find, many, Get and Keys answer. -/
import Derived.Test.YtghpbhcnblninaaTcA
namespace Go.Proofs.Ytghpbhcnblninaa.tbl
set_option linter.unusedSimpArgs false
set_option linter.unusedVariables false
open Go.RowKit
attribute [local go_sem ↓] Go.wp_at_zero Go.wp_at_succ
open Go.Proofs.Ytghpbhcnblninaa.grp (gof gof_in fits fits_wf IRow intV below_on' below_made ret_bool own_below own_cases rof_any ret_int below_drewN irow_new EqPost eq_yes eq_no)
theorem rless_any (a b : Int) (w : World) (ha : fits a) (hb : fits b) : Calls Try.prog 54 #[.int .i64 a, .int .i64 b] w fun e w' => e = .returned (.bool (lessB a b)) ∧ w' = w := by
  have HA := Lib.hid (rof_any a w ha)
  have HB := Lib.hid (rof_any b w hb)
  have HL : Hid (lessB a b = (decide (gof a < gof b) || (decide (gof a = gof b) && decide (a < b)))) := Lib.hid rfl
  obtain ⟨x, hx⟩ : ∃ x, gof a = x := ⟨_, rfl⟩
  obtain ⟨y, hy⟩ : ∃ y, gof b = y := ⟨_, rfl⟩
  rw [hx] at HA HL
  rw [hy] at HB HL
  clear hx hy ha hb
  go_enter Try.func54, Try.ntmps54
  go_wp2_with fail
  refine HA.out.mono ?_
  rintro e w1 ⟨rfl, rfl⟩
  go_wp2_with fail
  refine HB.out.mono ?_
  rintro e w1 ⟨rfl, rfl⟩
  by_cases h1 : x < y
  · go_wp2_with fail
    go_ret
    exact ⟨ret_bool (by rw [HL.out]; simp [h1]), rfl⟩
  · by_cases h2 : x = y
    · subst h2
      go_wp2_with fail
      go_ret
      exact ⟨ret_bool (by rw [HL.out]; simp), rfl⟩
    · have hne : (x == y) = false := by simp [h2]
      go_wp2_with fail
      go_ret
      exact ⟨ret_bool (by rw [HL.out]; simp [h1, h2]), rfl⟩
def isAt (rs : List Rw) (k : Int) : Bool := if h : fnd rs k < rs.length then decide (rs[fnd rs k].key = k) else false
theorem at_look {rs : List Rw} {k : Int} (hO : Ord (rs.map Rw.p)) : (look (rs.map Rw.p) k).isSome = isAt rs k := by
  rw [fnd_look rs k hO]
  unfold isAt
  split
  · split
    · rename_i h; simp [h]
    · rename_i h; simp [h]
  · rfl
set_option maxHeartbeats 1600000 in
set_option maxRecDepth 1000000 in
theorem find_any {w : World} {r : Nat} {rs : List Rw} (h : IsRs w r rs) (hG : Good (rs.map Rw.p)) {k : Int} (hk : fits k) :
    Calls Try.prog 48 #[.pointer (some ⟨r, 0, none⟩), .int .i64 k] w fun e w' => e = .returned (.tuple #[.int .i64 (fnd rs k), .bool (isAt rs k)]) ∧ Below w.heap.size w w' := by
  obtain ⟨v, hr, hs, -⟩ := h
  have HS := Lib.hid hs
  have c0 := cell_of_row w r 0 _ _ _ hr
  have HC := Lib.hid c0
  have hlen : rs.length ≤ 320 := by have := hG.len; rwa [List.length_map] at this
  have HKF : Hid (∀ j (h : j < rs.length), fits rs[j].key) := Lib.hid (fun j hj => hG.key rs[j].p (List.mem_map_of_mem (List.getElem_mem hj)))
  have hfl := fnd_le rs k
  obtain ⟨m, hm⟩ : ∃ m, fnd rs k = m := ⟨_, rfl⟩
  have HM := Lib.hid hm
  have HA : Hid (isAt rs k = if h : m < rs.length then decide (rs[m].key = k) else false) := Lib.hid (by unfold isAt; simp only [hm])
  have HLS : Hid (∀ j (h : j < rs.length), j < m → lessB rs[j].key k = true) := Lib.hid (fun j h hj => fnd_less (by rw [hm]; exact hj) h)
  have HLN : Hid (∀ h : m < rs.length, lessB rs[m].key k = false) := Lib.hid (fun h => by subst hm; exact fnd_not h)
  rw [hm] at hfl ⊢
  obtain ⟨n, hn⟩ : ∃ n, rs.length = n := ⟨_, rfl⟩
  have HN := Lib.hid hn
  obtain ⟨a0, c1, hv⟩ := hs.len
  rw [hn] at hlen hfl hv
  have HV := Lib.hid hv
  obtain ⟨ia, hia⟩ : ∃ x, isAt rs k = x := ⟨_, rfl⟩
  rw [hia] at HA ⊢
  clear hr hs hG hm hn c0 hia
  go_enter Try.func48, Try.ntmps48
  go_wp2_with fail
  go_loopg [6] m (fun g v6 wr => ∃ j : Nat, j + g = m ∧ v6 = .int .i64 j ∧ Below w.heap.size w wr)
  case atStart => exact ⟨0, by omega, rfl, Below.refl _ _⟩
  case round =>
    obtain ⟨j, hjg, rfl, hb⟩ := hrel
    have HB := Lib.hid hb
    have hsz := hb.size
    cases gk with
    | succ g =>
      have hjn : j < rs.length := by rw [HN.out]; omega
      obtain ⟨gb, o, c2, hv2, e1, -, -⟩ := HS.out.at hjn
      rw [HN.out] at hv2
      rw [HV.out] at hv2
      obtain ⟨rfl, rfl⟩ : a0 = some ⟨gb, o, none⟩ ∧ c1 = c2 := by injection hv2 with h1 h2 h3; exact ⟨h1, h3⟩
      have hc := (hb.cell (p := ⟨r, 0, none⟩) (World.block_lt_of_cell? w _ HC.out)).trans HC.out
      rw [HV.out] at hc
      change wr.cell? ⟨r, 0, none⟩ = some (.slice (some ⟨gb, o, none⟩) n c1) at hc
      have hck := (hb.cell (p := ⟨gb, o + j * 3, none⟩) (World.block_lt_of_cell? w _ e1)).trans e1
      have HLE := Lib.hid (rless_any rs[j].key k wr (HKF.out j hjn) hk)
      rw [HLS.out j hjn (by omega)] at HLE
      obtain ⟨x, hx⟩ : ∃ x, rs[j].key = x := ⟨_, rfl⟩
      rw [hx] at hck HLE
      have hlt : (j : Int) < (n : Int) := by have := HN.out; omega
      have hj0 : (0 : Int) ≤ (j : Int) := by omega
      clear hx e1 hv2 hb hjn
      go_wp2_with fail
      refine HLE.out.mono ?_
      rintro e w1 ⟨rfl, rfl⟩
      go_wp2_with fail
      go_roundg g
      case measure => omega
      case rel => exact ⟨j + 1, by omega, by go_num, HB.out⟩
    | zero =>
      obtain rfl : j = m := by omega
      by_cases hjn : j < rs.length
      · obtain ⟨gb, o, c2, hv2, e1, -, -⟩ := HS.out.at hjn
        rw [HN.out] at hv2
        rw [HV.out] at hv2
        obtain ⟨rfl, rfl⟩ : a0 = some ⟨gb, o, none⟩ ∧ c1 = c2 := by injection hv2 with h1 h2 h3; exact ⟨h1, h3⟩
        have hc := (hb.cell (p := ⟨r, 0, none⟩) (World.block_lt_of_cell? w _ HC.out)).trans HC.out
        rw [HV.out] at hc
        change wr.cell? ⟨r, 0, none⟩ = some (.slice (some ⟨gb, o, none⟩) n c1) at hc
        have hck := (hb.cell (p := ⟨gb, o + j * 3, none⟩) (World.block_lt_of_cell? w _ e1)).trans e1
        have HLE := Lib.hid (rless_any rs[j].key k wr (HKF.out j hjn) hk)
        rw [HLN.out hjn] at HLE
        have HA2 := HA.out
        rw [dif_pos hjn] at HA2
        obtain ⟨x, hx⟩ : ∃ x, rs[j].key = x := ⟨_, rfl⟩
        rw [hx] at hck HLE HA2
        have hlt : (j : Int) < (n : Int) := by have := HN.out; omega
        have hlt' : decide ((j : Int) < (n : Int)) = true := decide_eq_true hlt
        have hj0 : (0 : Int) ≤ (j : Int) := by omega
        subst HA2
        clear hx e1 hv2 hb hjn
        go_wp2_with fail
        refine HLE.out.mono ?_
        rintro e w1 ⟨rfl, rfl⟩
        go_wp2_with fail
        go_quiet (fail)
        go_wp2_with fail
        try rw [Exit.noGoto_ret]
        go_ret2
        exact ⟨rfl, HB.out.trans ((below_drewN _ _).mono HB.out.size)⟩
      · have hnn : ¬ ((j : Int) < (n : Int)) := by have := HN.out; omega
        have hnn' : decide (j < n) = false := decide_eq_false (by omega)
        have hc := (hb.cell (p := ⟨r, 0, none⟩) (World.block_lt_of_cell? w _ HC.out)).trans HC.out
        rw [HV.out] at hc
        change wr.cell? ⟨r, 0, none⟩ = some (.slice a0 n c1) at hc
        have HA2 := HA.out
        rw [dif_neg hjn] at HA2
        subst HA2
        clear hb hjn
        go_wp2_with fail
        go_quiet (fail)
        go_wp2_with fail
        try rw [Exit.noGoto_ret]
        go_ret2
        exact ⟨rfl, HB.out.trans ((below_drewN _ _).mono HB.out.size)⟩
end Go.Proofs.Ytghpbhcnblninaa.tbl

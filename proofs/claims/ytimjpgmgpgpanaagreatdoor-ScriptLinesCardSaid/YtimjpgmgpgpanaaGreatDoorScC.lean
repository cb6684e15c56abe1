/- Rows of texts; words ahead of a number. -/
import Derived.Test.YtimjpgmgpgpanaaGreatDoorScA
import Derived.Test.YtimjpgmgpgpanaaGreatDoorMJd
import Derived.Test.YtimjpgmgpgpanaaGreatDoorLgW
namespace Go.Proofs.YtimjpgmgpgpanaaGreatDoor.sc
set_option linter.unusedSimpArgs false
set_option linter.unusedVariables false
open Go.RowKit nam exp jb

/-- A slice of texts. -/
def SRow (w : World) (v : Value) (l : List ByteArray) : Prop :=
  ∃ a c, v = .slice a l.length c ∧ l.length ≤ c ∧ (0 < l.length → ∃ b o, a = some ⟨b, o, none⟩ ∧ b < w.heap.size ∧ ∀ i (h : i < l.length), w.cell? ⟨b, o + i, none⟩ = some (.string l[i]))
theorem SRow.on {w w' : World} {v : Value} {l : List ByteArray} (h : SRow w v l) (hb : Below w.heap.size w w') : SRow w' v l := by
  obtain ⟨a, c, h1, hc, h2⟩ := h
  refine ⟨a, c, h1, hc, fun hl => ?_⟩
  obtain ⟨b, o, h3, h4, h5⟩ := h2 hl
  exact ⟨b, o, h3, by have := hb.size; omega, fun i hi => (hb.cell (p := ⟨b, o + i, none⟩) h4).trans (h5 i hi)⟩
theorem SRow.nil (w : World) : SRow w (.slice none 0 0) [] := ⟨none, 0, rfl, Nat.le_refl _, fun h => by simp at h⟩
theorem SRow.take {w : World} {b o n c : Nat} {l : List ByteArray} (h : SRow w (.slice (some ⟨b, o, none⟩) n c) l) {k : Nat} (hk : k ≤ l.length) : SRow w (.slice (some ⟨b, o, none⟩) k c) (l.take k) := by
  obtain ⟨a', c', h1, h0, h2⟩ := h
  obtain ⟨rfl, rfl, rfl⟩ : some ⟨b, o, none⟩ = a' ∧ n = l.length ∧ c = c' := by simpa using h1
  have hlen : (l.take k).length = k := by rw [List.length_take]; omega
  refine ⟨_, c, by rw [hlen], by omega, fun hl => ?_⟩
  obtain ⟨b', o', h3, h4, h5⟩ := h2 (by omega)
  exact ⟨b', o', h3, h4, fun i hi => by
    rw [List.getElem_take]
    exact h5 i (by omega)⟩
theorem SRow.drop {w : World} {b o n c : Nat} {l : List ByteArray} (h : SRow w (.slice (some ⟨b, o, none⟩) n c) l) {k : Nat} (hk : k ≤ l.length) : SRow w (.slice (some ⟨b, o + k, none⟩) (n - k) (c - k)) (l.drop k) := by
  obtain ⟨a', c', h1, h0, h2⟩ := h
  obtain ⟨rfl, rfl, rfl⟩ : some ⟨b, o, none⟩ = a' ∧ n = l.length ∧ c = c' := by simpa using h1
  have hlen : (l.drop k).length = l.length - k := List.length_drop
  refine ⟨_, c - k, by rw [hlen], by omega, fun hl => ?_⟩
  obtain ⟨b', o', h3, h4, h5⟩ := h2 (by omega)
  simp only [Option.some.injEq, Addr.mk.injEq, and_true] at h3
  obtain ⟨rfl, rfl⟩ := h3
  exact ⟨b, o + k, rfl, h4, fun i hi => by
    rw [List.getElem_drop, Nat.add_assoc]
    exact h5 (k + i) (by omega)⟩
theorem SRow.own {w : World} {B : Nat} {v : Value} {l : List ByteArray} (h : w.ownsRow B 9 1 v l.length (l.map Value.string)) : SRow w v l := by
  rcases own_cases h with ⟨rfl, h0⟩ | ⟨g, cap, rfl, h1, h2, _, hlt, hc⟩
  · exact ⟨none, 0, by rw [h0], by omega, fun h => by omega⟩
  · exact ⟨_, cap, rfl, h1, fun _ => ⟨g, 0, rfl, hlt, fun i hi => by
      rw [Nat.zero_add]
      exact hc i _ (by rw [List.getElem?_map, List.getElem?_eq_getElem hi]; rfl)⟩⟩
def CutPost (us : List ByteArray) (w0 w : World) (e : Ending) (w' : World) : Prop :=
  ∃ a c, e = .returned (.tuple #[.slice a (cutF us).1.length c, .int .i64 ((cutF us).2.1 : Int), .bool (cutF us).2.2]) ∧ SRow w0 (.slice a (cutF us).1.length c) (cutF us).1 ∧ Below w.heap.size w w'
set_option maxHeartbeats 800000 in
set_option maxRecDepth 1000000 in
theorem cutNumber_any {w0 w : World} {v : Value} {us : List ByteArray} (h : SRow w0 v us) (hb : Below w0.heap.size w0 w) (hl : us.length ≤ 1000) :
    Calls Tryz.prog 102 #[v] w (CutPost us w0 w) := by
  have HS := Lib.hid h
  obtain ⟨a, c, rfl, hc, h2⟩ := h.on hb
  clear hb h
  by_cases h0 : us.length = 0
  · have HE : Hid (CutPost us w0 w (.returned (.tuple #[.slice none 0 0, .int .i64 0, .bool false])) w) := Lib.hid (by
      unfold CutPost cutF
      rw [if_pos h0]
      exact ⟨none, 0, rfl, SRow.nil w0, Below.refl _ _⟩)
    rw [h0]
    clear h2 hc HS
    go_enter Tryz.func102, Tryz.ntmps102
    go_wp2_with fail
    go_ret3
    exact HE.out
  · obtain ⟨m, hm⟩ : ∃ m, us.length = m + 1 := ⟨us.length - 1, by omega⟩
    obtain ⟨b, o, rfl, hlt, hcs⟩ := h2 (by omega)
    have hcm := hcs m (by omega)
    obtain ⟨u, hu⟩ : ∃ u, us[m]'(by omega) = u := ⟨_, rfl⟩
    rw [hu] at hcm
    have hlast : lastW us = u := by
      unfold lastW
      rw [List.getLast?_eq_getElem?, hm, show m + 1 - 1 = m by omega, List.getElem?_eq_getElem (by omega), hu]; rfl
    have HC : Hid (cutF us = (us.take m, (numO u 2).getD 0, (numO u 2).isSome)) := Lib.hid (by
      unfold cutF; rw [if_neg h0, hlast, hm]; rfl)
    have HT := Lib.hid (HS.out.take (k := m) (by omega))
    have HLT : Hid ((us.take m).length = m) := Lib.hid (by rw [List.length_take]; omega)
    have HN := Lib.hid (number_any u 2 (by omega) w)
    unfold numV at HN
    obtain ⟨q, hq⟩ : ∃ q, (numO u 2).getD 0 = q := ⟨_, rfl⟩
    obtain ⟨k, hk⟩ : ∃ k, (numO u 2).isSome = k := ⟨_, rfl⟩
    rw [hq, hk] at HN HC
    have HE : Hid (∀ w', Below w.heap.size w w' → CutPost us w0 w (.returned (.tuple #[.slice (some ⟨b, o, none⟩) m c, .int .i64 (q : Int), .bool k])) w') := Lib.hid (fun w' hb => by
      unfold CutPost
      rw [HC.out]
      exact ⟨some ⟨b, o, none⟩, c, by simp only [HLT.out], by simp only [HLT.out]; exact HT.out, hb⟩)
    have hmc : (m : Int) ≤ (c : Int) := by omega
    have hmc2 : (m : Int) + 1 ≤ (c : Int) := by omega
    rw [hm]
    rw [hm] at hl
    clear hcs hu hlast hq hk HS HT HC HLT h0 hc h2 hm
    go_enter Tryz.func102, Tryz.ntmps102
    go_wp2_with fail
    refine HN.out.mono ?_
    rintro e w1 ⟨rfl, hb1⟩
    have HB1 := Lib.hid hb1; clear hb1
    go_wp2_with fail
    go_ret3
    exact HE.out _ HB1.out
end Go.Proofs.YtimjpgmgpgpanaaGreatDoor.sc

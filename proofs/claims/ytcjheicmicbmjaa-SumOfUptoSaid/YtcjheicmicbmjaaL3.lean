/- SumSpoilt returns true, in whatever world, and turns nothing that was there. -/
import Derived.Test.YtcjheicmicbmjaaL1
import Derived.Laws.IdiomStrings
import Derived.Laws.BitsAllLaws
namespace Go.Proofs.Ytcjheicmicbmjaa
open Go.RowKit

theorem u8_range {b : Int} (hwf : (Lit.int .u8 b).wf = true) : 0 ≤ b ∧ b ≤ 255 := by
  have h1 : IntKind.u8.min = 0 := rfl
  have h2 : IntKind.u8.max = 255 := rfl
  simp [Lit.wf, IntKind.wrap, IntKind.bits, IntKind.signed] at hwf
  omega
/-- A row of bytes as a text. -/
def txt (l : List UInt8) : ByteArray := ⟨l.toArray⟩
theorem bl_txt (l : List UInt8) : bl (txt l) = l := rfl
theorem txt_size (l : List UInt8) : (txt l).size = l.length := by simp [txt, ByteArray.size]
/-- A text's bytes with another one at a place. -/
def put (s : ByteArray) (k : Nat) (d : UInt8) : ByteArray := txt ((bl s).set k d)
theorem put_size (s : ByteArray) (k : Nat) (d : UInt8) : (put s k d).size = s.size := by rw [put, txt_size, List.length_set]; rfl
theorem split_at {s : ByteArray} {k : Nat} (hk : k < s.size) : bl s = (bl s).take k ++ s[k] :: (bl s).drop (k + 1) := by
  rw [← drop_byte s k hk, List.take_append_drop]
theorem put_split {s : ByteArray} {k : Nat} (hk : k < s.size) (d : UInt8) : bl (put s k d) = (bl s).take k ++ d :: (bl s).drop (k + 1) := by
  rw [put, bl_txt, List.set_eq_take_append_cons_drop, if_pos (by rw [bl_length]; exact hk)]
theorem spoilt_ne {s : ByteArray} {k : Nat} (hk : k < s.size) {d : UInt8} (hd : s[k] ≠ d) : sm (bl (put s k d)) ≠ sm (bl s) := by
  intro h
  rw [put_split hk] at h
  exact hd (sm_spoilt (h.trans (congrArg sm (split_at hk)))).symm
theorem put_same {s : ByteArray} {k : Nat} (hk : k < s.size) : bl (put s k s[k]) = bl s := by
  rw [put_split hk, ← split_at hk]

/-- A byte, some bits of it turned. -/
def turn (c : UInt8) (b : Int) : UInt8 := c ^^^ UInt8.ofNat b.toNat
theorem turn_bits (c : UInt8) {b : Int} (h0 : 0 ≤ b) (h1 : b ≤ 255) : bits .xor .u8 (c.toNat : Int) b = ((turn c b).toNat : Int) := by
  have hc := byte_lt c
  rw [u8_xor _ _ (by omega) (by omega) h0 (by omega), turn, UInt8.toNat_xor, UInt8.toNat_ofNat', Nat.mod_eq_of_lt (by omega)]
  rfl
theorem turn_zero (c : UInt8) : turn c 0 = c := by unfold turn; simp
theorem turn_ne (c : UInt8) {b : Int} (h0 : 0 ≤ b) (h1 : b ≤ 255) (hb : b ≠ 0) : c ≠ turn c b := by
  intro h
  have h2 : c ^^^ c = c ^^^ (c ^^^ UInt8.ofNat b.toNat) := congrArg (c ^^^ ·) h
  rw [← UInt8.xor_assoc, UInt8.xor_self, UInt8.zero_xor] at h2
  have h3 := congrArg UInt8.toNat h2
  rw [UInt8.toNat_ofNat', Nat.mod_eq_of_lt (by omega)] at h3
  have h4 : (0 : UInt8).toNat = 0 := rfl
  omega

/-- What '[]byte(s)' lays. -/
theorem bytes_made (s : ByteArray) (w : World) : ∃ (X : World) (cap : Nat), (convert 9 32 (.string s)).run Try.prog w = .ok (.slice (some ⟨w.heap.size, 0, none⟩) s.size cap) X ∧ Below w.heap.size w X ∧ w.heap.size < X.heap.size ∧
    (∀ j (h : j < s.size), X.cell? ⟨w.heap.size, j, none⟩ = some (.int .u8 (s[j].toNat : Int)) ∧ X.frozen? ⟨w.heap.size, j, none⟩ = false) := by
  refine ⟨_, _, run_bytes_of_string w 9 32 5 s Try.underlying9 Try.underlying32 Try.underlying5, ?_, ?_, fun j h => ⟨?_, ?_⟩⟩
  · exact (show Below w.heap.size w w.drew from ⟨rfl, rfl, rfl, Nat.le_refl _, fun _ _ => rfl⟩).alloc (Nat.le_refl _) _
  · rw [World.size_alloc]; exact Nat.lt_succ_self _
  · exact (World.cell?_alloc_mark w.drew _ _ _ _).trans (bytesRow_at s _ j h)
  · refine (World.frozen?_alloc_mark w.drew _ _ _ _ _).trans ?_
    have : j < (bytesRow s (grownCap w s.size 0 5)).size := by
      unfold bytesRow
      rw [Array.size_append, Array.size_map]
      have : s.data.size = s.size := rfl
      omega
    simp
    omega
/-- The row with another byte at a place, as a text. -/
theorem put_string {X : World} {g : Nat} {s : ByteArray} {k cap : Nat} (hk : k < s.size) (hc : ∀ j (h : j < s.size), X.cell? ⟨g, j, none⟩ = some (.int .u8 (s[j].toNat : Int))) (d : UInt8) :
    (convert 32 9 (.slice (some ⟨g, 0, none⟩) s.size cap)).run Try.prog (X.setCell ⟨g, k, none⟩ (.int .u8 (d.toNat : Int))) = .ok (.string (put s k d)) (X.setCell ⟨g, k, none⟩ (.int .u8 (d.toNat : Int))) := by
  have hl : ((bl s).set k d).length = s.size := by rw [List.length_set]; rfl
  have := run_convert_bytes_back (P := Try.prog) (X.setCell ⟨g, k, none⟩ (.int .u8 (d.toNat : Int))) 32 9 5 ⟨g, 0, none⟩ cap ((bl s).set k d) Try.underlying32 Try.underlying5 Try.underlying9 (fun j hj => by
    have hadd : (⟨g, 0, none⟩ : Addr).add j = ⟨g, 0 + j, none⟩ := Go.WideShapes.add_plain g 0 j
    rw [hadd, Nat.zero_add]
    by_cases hjk : j = k
    · subst hjk
      rw [World.cell?_setCell_same _ _ _ (hc j hk), List.getElem_set_self]
    · rw [World.cell?_setCell_other _ _ _ _ (by simp [hjk]), hc j (by omega), List.getElem_set_ne (by omega)]
      rfl)
  rw [hl] at this
  exact this

set_option maxHeartbeats 800000 in
set_option maxRecDepth 1000000 in
theorem spoilt_other (s : ByteArray) (a b : Int) (h : 100000 < (s.size : Int) ∨ a < 0 ∨ (s.size : Int) ≤ a) (w : World) : Calls Try.prog 6 #[.string s, .int .i64 a, .int .u8 b] w fun e w' => e = .returned (.bool true) ∧ Below w.heap.size w w' := by
  by_cases h1 : 100000 < (s.size : Int)
  · clear h
    go_enter Try.func6, Try.ntmps6
    go_wp2_with fail
    refine (works_any _).mono ?_
    rintro e w1 ⟨rfl, hb⟩
    have HB := Lib.hid hb; clear hb
    go_wp2_with fail
    go_ret
    exact ⟨rfl, HB.out⟩
  · by_cases h2 : a < 0
    · clear h
      go_enter Try.func6, Try.ntmps6
      go_wp2_with fail
      refine (works_any _).mono ?_
      rintro e w1 ⟨rfl, hb⟩
      have HB := Lib.hid hb; clear hb
      go_wp2_with fail
      go_ret
      exact ⟨rfl, HB.out⟩
    · have h3 : (s.size : Int) ≤ a := by omega
      clear h
      go_enter Try.func6, Try.ntmps6
      go_wp2_with fail
      refine (works_any _).mono ?_
      rintro e w1 ⟨rfl, hb⟩
      have HB := Lib.hid hb; clear hb
      go_wp2_with fail
      go_ret
      exact ⟨rfl, HB.out⟩

/-- sum.Of of one part, behind a store into a block of the call's own. -/
theorem of_stored {w X : World} {k : Nat} {v : Value} (hb : Below w.heap.size w X) (x : ByteArray) {n : Nat} (hn : sm (bl x) = n) (hx : x.size ≤ 100000) :
    Calls Try.prog 10 #[.slice (some ⟨X.heap.size, 0, none⟩) 1 1] ((X.setCell ⟨w.heap.size, k, none⟩ v).alloc (.cells #[.string x] 9)) fun e w' => e = .returned (.int .u32 n) ∧ Below w.heap.size w w' := by
  have h := of_one x (X.setCell ⟨w.heap.size, k, none⟩ v) (by omega)
  rw [World.size_setCell, hn] at h
  refine h.mono ?_
  rintro e w' ⟨rfl, h2⟩
  exact ⟨rfl, (hb.setCell (Nat.le_refl _) v).trans (h2.mono hb.size)⟩

set_option maxHeartbeats 1600000 in
set_option maxRecDepth 1000000 in
theorem spoilt_in (s : ByteArray) (k : Nat) (b : Int) (hs : s.size ≤ 100000) (hk : k < s.size) (h0 : 0 ≤ b) (h1 : b ≤ 255) (w : World) : Calls Try.prog 6 #[.string s, .int .i64 k, .int .u8 b] w fun e w' => e = .returned (.bool true) ∧ Below w.heap.size w w' := by
  obtain ⟨X, cap, hmk, hb, hsz, hcl⟩ := bytes_made s w
  obtain ⟨d, hd⟩ : ∃ d, turn s[k] b = d := ⟨_, rfl⟩
  have hx := turn_bits s[k] h0 h1
  rw [hd] at hx
  have hcv := put_string (cap := cap) hk (fun j h => (hcl j h).1) d
  have hck := (hcl k hk).1
  have hfk := (hcl k hk).2
  have HP := Lib.hid (show (put s k d).size ≤ 100000 by rw [put_size]; exact hs)
  have hne : b ≠ 0 → sm (bl (put s k d)) ≠ sm (bl s) := fun hb0 => spoilt_ne hk (d := d) (by rw [← hd]; exact turn_ne s[k] h0 h1 hb0)
  have heq : b = 0 → bl (put s k d) = bl s := fun hb0 => by rw [← hd, hb0, turn_zero, put_same hk]
  have HB := Lib.hid hb
  obtain ⟨t, et⟩ : ∃ t, put s k d = t := ⟨_, rfl⟩
  rw [et] at hcv HP hne heq
  obtain ⟨x, ex⟩ : ∃ x, sm (bl t) = x := ⟨_, rfl⟩
  obtain ⟨y, ey⟩ : ∃ y, sm (bl s) = y := ⟨_, rfl⟩
  have HX := Lib.hid ex; have HY := Lib.hid ey
  by_cases hb0 : b = 0
  · subst hb0
    obtain rfl : x = y := by rw [← ex, ← ey, heq rfl]
    clear hne heq ex ey et hcl hd hb
    go_enter Try.func6, Try.ntmps6
    go_wp2_with fail
    with_reducible refine (of_stored HB.out t HX.out HP.out).mono ?_
    rintro e w1 ⟨rfl, hb⟩
    have HB := Lib.hid hb; clear hb
    go_wp2_with fail
    refine (of_one s w1 (by omega)).mono ?_
    rw [HY.out]
    rintro e w2 ⟨rfl, hb⟩
    have HB := Lib.hid (below_on' HB.out hb); clear hb
    go_wp2_with fail
    refine (works_any _).mono ?_
    rintro e w2 ⟨rfl, hb⟩
    have HB := Lib.hid (below_on' HB.out hb); clear hb
    go_wp2_with fail
    go_ret
    exact ⟨rfl, HB.out⟩
  · have hxy : ((x : Int) == (y : Int)) = false := by
      have := hne hb0
      rw [ex, ey] at this
      simp; omega
    have hbz : (b == 0) = false := by simp; omega
    clear hne heq ex ey et hcl hd hb hb0
    go_enter Try.func6, Try.ntmps6
    go_wp2_with fail
    with_reducible refine (of_stored HB.out t HX.out HP.out).mono ?_
    rintro e w1 ⟨rfl, hb⟩
    have HB := Lib.hid hb; clear hb
    go_wp2_with fail
    refine (of_one s w1 (by omega)).mono ?_
    rw [HY.out]
    rintro e w2 ⟨rfl, hb⟩
    have HB := Lib.hid (below_on' HB.out hb); clear hb
    go_wp2_with fail
    refine (works_any _).mono ?_
    rintro e w2 ⟨rfl, hb⟩
    have HB := Lib.hid (below_on' HB.out hb); clear hb
    go_wp2_with fail
    go_ret
    exact ⟨rfl, HB.out⟩

theorem law_spoilt (s : ByteArray) (a b : Int) (hwf : (Lit.int .u8 b).wf = true) (w : World) : Calls Try.prog 6 #[.string s, .int .i64 a, .int .u8 b] w fun e w' => e = .returned (.bool true) ∧ Below w.heap.size w w' := by
  obtain ⟨h0, h1⟩ := u8_range hwf
  by_cases h : 100000 < (s.size : Int) ∨ a < 0 ∨ (s.size : Int) ≤ a
  · exact spoilt_other s a b h w
  · obtain ⟨k, rfl⟩ : ∃ k : Nat, a = k := ⟨a.toNat, by omega⟩
    exact spoilt_in s k b (by omega) (by omega) h0 h1 w
end Go.Proofs.Ytcjheicmicbmjaa

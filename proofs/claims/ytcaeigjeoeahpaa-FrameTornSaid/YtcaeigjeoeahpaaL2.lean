/- FrameTorn returns true of every kind, payload, place and byte, in whatever world, and turns nothing that was there. -/
import Derived.Test.YtcaeigjeoeahpaaL1
import Derived.Laws.IdiomStrings
import Derived.Laws.BitsAllLaws
namespace Go.Proofs.Ytcaeigjeoeahpaa
open Go.RowKit byt

/-- A text's bytes with another one at a place. -/
def put (s : ByteArray) (k : Nat) (d : UInt8) : ByteArray := txt ((bl s).set k d)
theorem put_size (s : ByteArray) (k : Nat) (d : UInt8) : (put s k d).size = s.size := by rw [put, txt_size, List.length_set]; rfl
theorem split_at {s : ByteArray} {k : Nat} (hk : k < s.size) : bl s = (bl s).take k ++ s[k] :: (bl s).drop (k + 1) := by
  rw [← drop_byte s k hk, List.take_append_drop]
theorem put_split {s : ByteArray} {k : Nat} (hk : k < s.size) (d : UInt8) : bl (put s k d) = (bl s).take k ++ d :: (bl s).drop (k + 1) := by
  rw [put, txt_bl, List.set_eq_take_append_cons_drop, if_pos (by rw [bl_length]; exact hk)]
theorem put_same {s : ByteArray} {k : Nat} (hk : k < s.size) : bl (put s k s[k]) = bl s := by
  rw [put_split hk, ← split_at hk]

/-- A byte, some bits of it turned. -/
def turn (c : UInt8) (b : Int) : UInt8 := c ^^^ UInt8.ofNat b.toNat
theorem turn_bits (c : UInt8) {b : Int} (h0 : 0 ≤ b) (h1 : b ≤ 255) : bits .xor .u8 (c.toNat : Int) b = ((turn c b).toNat : Int) := by
  have hc := byte_lt c
  rw [u8_xor _ _ (by omega) (by omega) h0 (by omega), turn, UInt8.toNat_xor, UInt8.toNat_ofNat', Nat.mod_eq_of_lt (by omega)]
  rfl
theorem turn_zero (c : UInt8) : turn c 0 = c := by unfold turn; simp
theorem turn_ne (c : UInt8) {b : Int} (h0 : 0 ≤ b) (h1 : b ≤ 255) (hb : b ≠ 0) : c ≠ turn c b := by
  intro h
  have h2 : c ^^^ c = c ^^^ (c ^^^ UInt8.ofNat b.toNat) := congrArg (c ^^^ ·) h
  rw [← UInt8.xor_assoc, UInt8.xor_self, UInt8.zero_xor] at h2
  have h3 := congrArg UInt8.toNat h2
  rw [UInt8.toNat_ofNat', Nat.mod_eq_of_lt (by omega)] at h3
  have h4 : (0 : UInt8).toNat = 0 := rfl
  omega

/-- What '[]byte(s)' lays. -/
theorem bytes_made (s : ByteArray) (w : World) : ∃ (X : World) (cap : Nat), (convert 9 42 (.string s)).run Try.prog w = .ok (.slice (some ⟨w.heap.size, 0, none⟩) s.size cap) X ∧ Below w.heap.size w X ∧ w.heap.size < X.heap.size ∧
    (∀ j (h : j < s.size), X.cell? ⟨w.heap.size, j, none⟩ = some (.int .u8 (s[j].toNat : Int)) ∧ X.frozen? ⟨w.heap.size, j, none⟩ = false) := by
  refine ⟨_, _, run_bytes_of_string w 9 42 5 s Try.underlying9 Try.underlying42 Try.underlying5, ?_, ?_, fun j h => ⟨?_, ?_⟩⟩
  · exact (show Below w.heap.size w w.drew from ⟨rfl, rfl, rfl, Nat.le_refl _, fun _ _ => rfl⟩).alloc (Nat.le_refl _) _
  · rw [World.size_alloc]; exact Nat.lt_succ_self _
  · exact (World.cell?_alloc_mark w.drew _ _ _ _).trans (bytesRow_at s _ j h)
  · refine (World.frozen?_alloc_mark w.drew _ _ _ _ _).trans ?_
    have : j < (bytesRow s (grownCap w s.size 0 5)).size := by
      unfold bytesRow
      rw [Array.size_append, Array.size_map]
      have : s.data.size = s.size := rfl
      omega
    simp
    omega
/-- The row with another byte at a place, as a text. -/
theorem put_string {X : World} {g : Nat} {s : ByteArray} {k cap : Nat} (hk : k < s.size) (hc : ∀ j (h : j < s.size), X.cell? ⟨g, j, none⟩ = some (.int .u8 (s[j].toNat : Int))) (d : UInt8) :
    (convert 42 9 (.slice (some ⟨g, 0, none⟩) s.size cap)).run Try.prog (X.setCell ⟨g, k, none⟩ (.int .u8 (d.toNat : Int))) = .ok (.string (put s k d)) (X.setCell ⟨g, k, none⟩ (.int .u8 (d.toNat : Int))) := by
  have hl : ((bl s).set k d).length = s.size := by rw [List.length_set]; rfl
  have := run_convert_bytes_back (P := Try.prog) (X.setCell ⟨g, k, none⟩ (.int .u8 (d.toNat : Int))) 42 9 5 ⟨g, 0, none⟩ cap ((bl s).set k d) Try.underlying42 Try.underlying5 Try.underlying9 (fun j hj => by
    have hadd : (⟨g, 0, none⟩ : Addr).add j = ⟨g, 0 + j, none⟩ := Go.WideShapes.add_plain g 0 j
    rw [hadd, Nat.zero_add]
    by_cases hjk : j = k
    · subst hjk
      rw [World.cell?_setCell_same _ _ _ (hc j hk), List.getElem_set_self]
    · rw [World.cell?_setCell_other _ _ _ _ (by simp [hjk]), hc j (by omega), List.getElem_set_ne (by omega)]
      rfl)
  rw [hl] at this
  exact this


/-- A frame with another byte at a place. -/
theorem spoilt_frame {k at_ : Nat} {p t : ByteArray} (hk : k < 256) (h : putF k p = (t, 0)) (hat : at_ < t.size) {d : UInt8} (hd : t[at_] ≠ d) {k' n' : Nat} {p' : ByteArray} {c' : Int} (hx : takeF (put t at_ d) = (k', p', n', c')) : c' ≠ 0 ∨ n' < t.size := by
  by_cases hc : c' = 0
  · subst hc
    right
    obtain ⟨a0, a1, a2, a3, _, a5⟩ := take_put hx
    rw [put_size] at a3
    rcases Nat.lt_or_ge n' t.size with hn | hn
    · exact hn
    exfalso
    obtain rfl : n' = t.size := by omega
    have hall : (put t at_ d).extract 0 t.size = put t at_ d := by
      apply ba_ext
      rw [bl_sub, List.take_of_length_le]
      rw [← size_bl, put_size]
      exact Nat.le_refl _
    rw [hall] at a5
    have h0 : k ≠ 0 := fun e => by subst e; rw [putF_zero] at h; simp at h
    have hl : ¬ 65536 < p.size := fun e => by rw [putF_long h0 e] at h; simp at h
    rw [putF_fine h0 (by omega)] at h
    simp only [Prod.mk.injEq, and_true] at h
    have e1 := split_at hat
    have e2 := put_split hat d
    rw [a5] at e2
    exact hd (one_byte ((congrArg bl h).trans e1) e2)
  · exact .inl hc
theorem torn_frame {k at_ : Nat} {p t : ByteArray} (hk : k < 256) (h : putF k p = (t, 0)) (hat : at_ < t.size) {k' n' : Nat} {p' : ByteArray} {c' : Int} (hx : takeF (t.extract 0 at_) = (k', p', n', c')) : c' ≠ 0 := by
  have h0 : k ≠ 0 := fun e => by subst e; rw [putF_zero] at h; simp at h
  have hl : ¬ 65536 < p.size := fun e => by rw [putF_long h0 e] at h; simp at h
  rw [putF_fine h0 (by omega)] at h
  simp only [Prod.mk.injEq, and_true] at h
  subst h
  have := torn (k := k) (p := p) (by omega) hk (by omega) hat
  rw [hx] at this
  exact this

theorem putF_size {k : Nat} {p t : ByteArray} {c : Int} (hk : k < 256) (h : putF k p = (t, c)) : t.size ≤ 65551 := by
  by_cases hc : c = 0
  · subst hc; exact (putF_ok hk h (txt [])).2
  · unfold putF at h
    split at h
    · simp only [Prod.mk.injEq] at h; rw [← h.1]; decide
    split at h
    · simp only [Prod.mk.injEq] at h; rw [← h.1]; decide
    · simp only [Prod.mk.injEq] at h; exact absurd h.2.symm hc
set_option maxHeartbeats 800000 in
set_option maxRecDepth 1000000 in
theorem torn_other (k : Nat) (p : ByteArray) (a b : Int) (hk : k < 256) (hp : p.size ≤ 9223372036854775807) {t : ByteArray} {c : Int} (h1 : putF k p = (t, c)) (h : 20000 < (p.size : Int) ∨ c ≠ 0 ∨ a < 0 ∨ (t.size : Int) ≤ a) (w : World) :
    Calls Try.prog 8 #[.int .u8 k, .string p, .int .i64 a, .int .u8 b] w fun e w' => e = .returned (.bool true) ∧ Below w.heap.size w w' := by
  have hts := putF_size hk h1
  have H1 := Lib.hid h1
  clear h1
  by_cases g1 : 20000 < (p.size : Int)
  · clear h
    go_enter Try.func8, Try.ntmps8
    go_wp2_with fail
    with_reducible refine (putF_at H1.out w hk (by omega)).mono ?_
    rintro e w1 ⟨rfl, hb⟩
    have HB := Lib.hid hb; clear hb
    go_wp2_with fail
    refine (works_any _).mono ?_
    rintro e w2 ⟨rfl, hb⟩
    have HB := Lib.hid (below_on HB.out hb); clear hb
    go_wp2_with fail
    go_ret
    exact ⟨rfl, HB.out⟩
  · have g1' : (p.size : Int) ≤ 20000 := by omega
    by_cases g2 : c = 0
    · subst g2
      by_cases g3 : a < 0
      · clear h
        go_enter Try.func8, Try.ntmps8
        go_wp2_with fail
        with_reducible refine (putF_at H1.out w hk (by omega)).mono ?_
        rintro e w1 ⟨rfl, hb⟩
        have HB := Lib.hid hb; clear hb
        go_wp2_with fail
        refine (works_any _).mono ?_
        rintro e w2 ⟨rfl, hb⟩
        have HB := Lib.hid (below_on HB.out hb); clear hb
        go_wp2_with fail
        go_ret
        exact ⟨rfl, HB.out⟩
      · have g3' : 0 ≤ a := by omega
        have g4 : (t.size : Int) ≤ a := by omega
        clear h
        go_enter Try.func8, Try.ntmps8
        go_wp2_with fail
        with_reducible refine (putF_at H1.out w hk (by omega)).mono ?_
        rintro e w1 ⟨rfl, hb⟩
        have HB := Lib.hid hb; clear hb
        go_wp2_with fail
        refine (works_any _).mono ?_
        rintro e w2 ⟨rfl, hb⟩
        have HB := Lib.hid (below_on HB.out hb); clear hb
        go_wp2_with fail
        go_ret
        exact ⟨rfl, HB.out⟩
    · have g2a : (c == 0) = false := by simp [g2]
      have g2b : (c != 0) = true := by simp [g2]
      clear h g2
      go_enter Try.func8, Try.ntmps8
      go_wp2_with fail
      with_reducible refine (putF_at H1.out w hk (by omega)).mono ?_
      rintro e w1 ⟨rfl, hb⟩
      have HB := Lib.hid hb; clear hb
      go_wp2_with fail
      refine (works_any _).mono ?_
      rintro e w2 ⟨rfl, hb⟩
      have HB := Lib.hid (below_on HB.out hb); clear hb
      go_wp2_with fail
      go_ret
      exact ⟨rfl, HB.out⟩
theorem stored {w w2 X w3 : World} {k : Nat} {v : Value} (h : Below w.heap.size w w2) (hb : Below w2.heap.size w2 X) (h3 : Below (X.setCell ⟨w2.heap.size, k, none⟩ v).heap.size (X.setCell ⟨w2.heap.size, k, none⟩ v) w3) : Below w.heap.size w w3 := by
  refine below_on h ((hb.setCell (Nat.le_refl _) v).trans (h3.mono ?_))
  rw [World.size_setCell]; exact hb.size
set_option maxHeartbeats 1600000 in
set_option maxRecDepth 1000000 in
theorem torn_in (k at_ : Nat) (p t : ByteArray) (b : Int) (hk : k < 256) (h1 : putF k p = (t, 0)) (hp : p.size ≤ 20000) (hat : at_ < t.size) (h0 : 0 ≤ b) (hb255 : b ≤ 255) (w : World) :
    Calls Try.prog 8 #[.int .u8 k, .string p, .int .i64 at_, .int .u8 b] w fun e w' => e = .returned (.bool true) ∧ Below w.heap.size w w' := by
  have hts := putF_size hk h1
  have hp' : (p.size : Int) ≤ 20000 := by omega
  have hat' : (at_ : Int) < (t.size : Int) := by omega
  have hat2 : (at_ : Int) ≤ (t.size : Int) := by omega
  obtain ⟨k2, p2, n2, c2, h2⟩ : ∃ k2 p2 n2 c2, takeF (t.extract 0 at_) = (k2, p2, n2, c2) := ⟨_, _, _, _, rfl⟩
  have hc2 := torn_frame hk h1 hat h2
  have hc2a : (c2 == 0) = false := by simp [hc2]
  have hc2b : (c2 != 0) = true := by simp [hc2]
  have hts2 : (t.extract 0 at_).size ≤ 9223372036854775807 := by rw [ByteArray.size_extract]; omega
  obtain ⟨d, hd⟩ : ∃ d, turn t[at_] b = d := ⟨_, rfl⟩
  have hx := turn_bits t[at_] h0 hb255
  rw [hd] at hx
  have hts3 : (put t at_ d).size ≤ 9223372036854775807 := by rw [put_size]; omega
  obtain ⟨k3, p3, n3, c3, h3⟩ : ∃ k3 p3 n3 c3, takeF (put t at_ d) = (k3, p3, n3, c3) := ⟨_, _, _, _, rfl⟩
  have hall := (putF_ok hk h1 (txt [])).1
  rw [append_none] at hall
  have hne : b ≠ 0 → c3 ≠ 0 ∨ n3 < t.size := fun hb0 => spoilt_frame hk h1 hat (d := d) (by rw [← hd]; exact turn_ne t[at_] h0 hb255 hb0) h3
  have heq : b = 0 → n3 = t.size ∧ c3 = 0 := fun hb0 => by
    have e : put t at_ d = t := ba_ext (by rw [← hd, hb0, turn_zero, put_same hat])
    rw [e, hall] at h3
    simp only [Prod.mk.injEq] at h3
    exact ⟨h3.2.2.1.symm, h3.2.2.2.symm⟩
  have H1 := Lib.hid h1; have H2 := Lib.hid h2
  obtain ⟨u, et⟩ : ∃ u, put t at_ d = u := ⟨_, rfl⟩
  rw [et] at h3 hts3
  have H3 := Lib.hid h3; have ET := Lib.hid et
  clear h1 h2 h3 et hall hc2 hd
  by_cases hb0 : b = 0
  · obtain ⟨rfl, rfl⟩ := heq hb0
    subst hb0
    clear hne heq
    go_enter Try.func8, Try.ntmps8
    go_wp2_with fail
    with_reducible refine (putF_at H1.out w hk (by omega)).mono ?_
    rintro e w1 ⟨rfl, hb⟩
    have HB := Lib.hid hb; clear hb
    go_wp2_with fail
    with_reducible refine (take_at H2.out _ hts2).mono ?_
    rintro e w2 ⟨rfl, hb⟩
    have HB := Lib.hid (below_on HB.out hb); clear hb
    obtain ⟨X, cap, hmk, hb, hsz, hcl⟩ := bytes_made t w2
    have hcv := put_string (cap := cap) hat (fun j h => (hcl j h).1) d
    have hck := (hcl at_ hat).1
    have hfk := (hcl at_ hat).2
    rw [ET.out] at hcv
    have HC := Lib.hid hcl
    have HX := Lib.hid hb
    clear hcl hb
    go_wp2_with fail
    with_reducible refine (take_at H3.out _ hts3).mono ?_
    rintro e w3 ⟨rfl, hb⟩
    have HB := Lib.hid (stored HB.out HX.out hb); clear hb
    go_wp2_with fail
    refine (works_any _).mono ?_
    rintro e w4 ⟨rfl, hb⟩
    have HB := Lib.hid (below_on HB.out hb); clear hb
    go_wp2_with fail
    go_ret
    exact ⟨rfl, HB.out⟩
  · have hbz : (b == 0) = false := by simp [hb0]
    have hbz2 : (b != 0) = true := by simp [hb0]
    rcases hne hb0 with hc3 | hn3
    · have hc3a : (c3 == 0) = false := by simp [hc3]
      have hc3b : (c3 != 0) = true := by simp [hc3]
      clear hne heq hb0 hc3
      go_enter Try.func8, Try.ntmps8
      go_wp2_with fail
      with_reducible refine (putF_at H1.out w hk (by omega)).mono ?_
      rintro e w1 ⟨rfl, hb⟩
      have HB := Lib.hid hb; clear hb
      go_wp2_with fail
      with_reducible refine (take_at H2.out _ hts2).mono ?_
      rintro e w2 ⟨rfl, hb⟩
      have HB := Lib.hid (below_on HB.out hb); clear hb
      obtain ⟨X, cap, hmk, hb, hsz, hcl⟩ := bytes_made t w2
      have hcv := put_string (cap := cap) hat (fun j h => (hcl j h).1) d
      have hck := (hcl at_ hat).1
      have hfk := (hcl at_ hat).2
      rw [ET.out] at hcv
      have HC := Lib.hid hcl
      have HX := Lib.hid hb
      clear hcl hb
      go_wp2_with fail
      with_reducible refine (take_at H3.out _ hts3).mono ?_
      rintro e w3 ⟨rfl, hb⟩
      have HB := Lib.hid (stored HB.out HX.out hb); clear hb
      go_wp2_with fail
      refine (works_any _).mono ?_
      rintro e w4 ⟨rfl, hb⟩
      have HB := Lib.hid (below_on HB.out hb); clear hb
      go_wp2_with fail
      go_ret
      exact ⟨rfl, HB.out⟩
    · have hn3' : (n3 : Int) < (t.size : Int) := by omega
      clear hne heq hb0 hn3
      by_cases hc3 : c3 = 0
      · subst hc3
        go_enter Try.func8, Try.ntmps8
        go_wp2_with fail
        with_reducible refine (putF_at H1.out w hk (by omega)).mono ?_
        rintro e w1 ⟨rfl, hb⟩
        have HB := Lib.hid hb; clear hb
        go_wp2_with fail
        with_reducible refine (take_at H2.out _ hts2).mono ?_
        rintro e w2 ⟨rfl, hb⟩
        have HB := Lib.hid (below_on HB.out hb); clear hb
        obtain ⟨X, cap, hmk, hb, hsz, hcl⟩ := bytes_made t w2
        have hcv := put_string (cap := cap) hat (fun j h => (hcl j h).1) d
        have hck := (hcl at_ hat).1
        have hfk := (hcl at_ hat).2
        rw [ET.out] at hcv
        have HC := Lib.hid hcl
        have HX := Lib.hid hb
        clear hcl hb
        go_wp2_with fail
        with_reducible refine (take_at H3.out _ hts3).mono ?_
        rintro e w3 ⟨rfl, hb⟩
        have HB := Lib.hid (stored HB.out HX.out hb); clear hb
        go_wp2_with fail
        refine (works_any _).mono ?_
        rintro e w4 ⟨rfl, hb⟩
        have HB := Lib.hid (below_on HB.out hb); clear hb
        go_wp2_with fail
        go_ret
        exact ⟨rfl, HB.out⟩
      · have hc3a : (c3 == 0) = false := by simp [hc3]
        have hc3b : (c3 != 0) = true := by simp [hc3]
        clear hc3
        go_enter Try.func8, Try.ntmps8
        go_wp2_with fail
        with_reducible refine (putF_at H1.out w hk (by omega)).mono ?_
        rintro e w1 ⟨rfl, hb⟩
        have HB := Lib.hid hb; clear hb
        go_wp2_with fail
        with_reducible refine (take_at H2.out _ hts2).mono ?_
        rintro e w2 ⟨rfl, hb⟩
        have HB := Lib.hid (below_on HB.out hb); clear hb
        obtain ⟨X, cap, hmk, hb, hsz, hcl⟩ := bytes_made t w2
        have hcv := put_string (cap := cap) hat (fun j h => (hcl j h).1) d
        have hck := (hcl at_ hat).1
        have hfk := (hcl at_ hat).2
        rw [ET.out] at hcv
        have HC := Lib.hid hcl
        have HX := Lib.hid hb
        clear hcl hb
        go_wp2_with fail
        with_reducible refine (take_at H3.out _ hts3).mono ?_
        rintro e w3 ⟨rfl, hb⟩
        have HB := Lib.hid (stored HB.out HX.out hb); clear hb
        go_wp2_with fail
        refine (works_any _).mono ?_
        rintro e w4 ⟨rfl, hb⟩
        have HB := Lib.hid (below_on HB.out hb); clear hb
        go_wp2_with fail
        go_ret
        exact ⟨rfl, HB.out⟩
theorem law_torn (a : Int) (p : ByteArray) (at_ b : Int) (hwf : (Lit.int .u8 a).wf = true) (hp : p.size ≤ maxLen) (hwb : (Lit.int .u8 b).wf = true) (w : World) :
    Calls Try.prog 8 #[.int .u8 a, .string p, .int .i64 at_, .int .u8 b] w fun e w' => e = .returned (.bool true) ∧ Below w.heap.size w w' := by
  obtain ⟨k, rfl, hk⟩ := u8_nat hwf
  obtain ⟨m, rfl, hm⟩ := u8_nat hwb
  unfold maxLen at hp
  obtain ⟨t, c, h1⟩ : ∃ t c, putF k p = (t, c) := ⟨_, _, rfl⟩
  by_cases h : 20000 < (p.size : Int) ∨ c ≠ 0 ∨ at_ < 0 ∨ (t.size : Int) ≤ at_
  · exact torn_other k p at_ m hk hp h1 h w
  · obtain ⟨j, rfl⟩ : ∃ j : Nat, at_ = j := ⟨at_.toNat, by omega⟩
    obtain rfl : c = 0 := by omega
    exact torn_in k j p t m hk h1 (by omega) (by omega) (by omega) (by omega) w
end Go.Proofs.Ytcaeigjeoeahpaa

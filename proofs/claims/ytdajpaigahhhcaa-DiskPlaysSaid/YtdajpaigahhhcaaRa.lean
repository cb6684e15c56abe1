/- The reference's disk in memory; what its small calls answer. -/
import Derived.Test.YtdajpaigahhhcaaOa
namespace Go.Proofs.Ytdajpaigahhhcaa.dsk
set_option linter.unusedSimpArgs false
set_option linter.unusedVariables false
open Go.RowKit

def chgCells : Chg → List Value
  | .app i s => [.int .i64 1, .int .i64 i, .int .i64 0, .string s]
  | .cut i n => [.int .i64 2, .int .i64 i, .int .i64 n, .string ⟨#[]⟩]
  | .mov a b => [.int .i64 3, .int .i64 a, .int .i64 b, .string ⟨#[]⟩]
theorem chgCells_length (c : Chg) : (chgCells c).length = 4 := by cases c <;> rfl
def strs (f : Files) : Nat → Value := fun i => .string (f i)
/-- The cells of the reference's disk. -/
def cellsR (room : Nat) (off : Bool) (left : Int) (f g : Files) (lo : Value) : Nat → Value := fun j =>
  if j = 0 then .int .i64 room else if j < 17 then .string (f (j - 1)) else if j < 33 then .string (g (j - 17)) else if j = 33 then lo else if j = 34 then .bool off else .int .i64 left
theorem cellsR_now {room : Nat} {off : Bool} {left : Int} {f g : Files} {lo : Value} (i : Nat) (hi : i < 16) : cellsR room off left f g lo (1 + i) = strs f i := by
  unfold cellsR strs; rw [if_neg (by omega), if_pos (by omega)]; congr 2; omega
theorem cellsR_sure {room : Nat} {off : Bool} {left : Int} {f g : Files} {lo : Value} (i : Nat) (hi : i < 16) : cellsR room off left f g lo (17 + i) = strs g i := by
  unfold cellsR strs; rw [if_neg (by omega), if_neg (by omega), if_pos (by omega)]; congr 2; omega
theorem info43 : (Try.prog.info? 43).map (·.size) = some 16 := by kernel_rfl
theorem info46 : (Try.prog.info? 46).map (·.size) = some 36 := by kernel_rfl

/-- The reference's disk, and the blocks that are its own. -/
structure Rf (w : World) (G : Nat → Prop) (r : Nat) (room : Nat) (off : Bool) (left : Int) (f g : Files) (lo : Value) (L : List Chg) : Prop where
  row : w.rowIs r 46 36 (cellsR room off left f g lo)
  own : w.ownsRow 0 83 4 lo L.length (L.flatMap chgCells)
  gr : G r
  gl : ∀ k, lo.ownBlock = some k → G k
  lt : ∀ k, G k → k < w.heap.size
section
variable {w w' : World} {F G : Nat → Prop} {r : Nat} {room : Nat} {off : Bool} {left : Int} {f g : Files} {lo : Value} {L : List Chg}
theorem Rf.frame (h : Rf w G r room off left f g lo L) (hf : ∀ k, G k → w'.heap[k]? = w.heap[k]?) (hs : w.heap.size ≤ w'.heap.size) : Rf w' G r room off left f g lo L :=
  ⟨h.row.of_block (hf r h.gr), own_frame h.own fun k hk => hf k (h.gl k hk), h.gr, h.gl, fun k hk => Nat.lt_of_lt_of_le (h.lt k hk) hs⟩
theorem Rf.below (h : Rf w G r room off left f g lo L) (hb : Below w.heap.size w w') : Rf w' G r room off left f g lo L := h.frame (fun k hk => hb.block k (h.lt k hk)) hb.size
theorem Rf.other (h : Rf w G r room off left f g lo L) (ho : Only F w w') (hn : ∀ k, G k → ¬ F k) : Rf w' G r room off left f g lo L := h.frame (fun k hk => ho.block k (h.lt k hk) (hn k hk)) ho.size
theorem Rf.mono (h : Rf w G r room off left f g lo L) (hG : ∀ k, G k → F k) (hl : ∀ k, F k → k < w.heap.size) : Rf w F r room off left f g lo L := ⟨h.row, h.own, hG r h.gr, fun k hk => hG k (h.gl k hk), hl⟩
theorem Rf.ne (h : Rf w G r room off left f g lo L) : lo.ownBlock ≠ some r := fun e => by
  obtain ⟨cur, hc⟩ := own_kind h.own e
  obtain ⟨c, hr, _⟩ := h.row
  exact absurd rfl (kind_ne hc hr (by decide))
theorem Rf.set (h : Rf w G r room off left f g lo L) (o : Nat) (v : Value) {room' : Nat} {off' : Bool} {left' : Int} {f' g' : Files} {lo' : Value} {L' : List Chg}
    (he : ∀ j, j < 36 → (if j = o then v else cellsR room off left f g lo j) = cellsR room' off' left' f' g' lo' j) (ho : w.ownsRow 0 83 4 lo' L'.length (L'.flatMap chgCells)) (hl : ∀ k, lo'.ownBlock = some k → G k ∧ k ≠ r) :
    Rf (w.setCell ⟨r, o, none⟩ v) G r room' off' left' f' g' lo' L' :=
  ⟨(h.row.set o v).congr he, own_frame ho fun k hk => heap_setCell_other w _ k v (hl k hk).2, h.gr, fun k hk => (hl k hk).1, fun k hk => by simpa using h.lt k hk⟩
theorem Rf.setOff (h : Rf w G r room off left f g lo L) (b : Bool) : Rf (w.setCell ⟨r, 34, none⟩ (.bool b)) G r room b left f g lo L :=
  h.set 34 _ (fun j hj => by
    by_cases e : j = 34
    · subst e; rfl
    · rw [if_neg e]; unfold cellsR; simp [e]) h.own fun k hk => ⟨h.gl k hk, fun e => h.ne (e ▸ hk)⟩
theorem Rf.setLeft (h : Rf w G r room off left f g lo L) (n : Int) : Rf (w.setCell ⟨r, 35, none⟩ (.int .i64 n)) G r room off n f g lo L :=
  h.set 35 _ (fun j hj => by
    by_cases e : j = 35
    · subst e; rfl
    · rw [if_neg e]
      unfold cellsR
      by_cases h0 : j = 0
      · simp [h0]
      · by_cases h1 : j < 17
        · simp [h0, h1]
        · by_cases h2 : j < 33
          · simp [h0, h1, h2]
          · by_cases h3 : j = 33
            · simp [h3]
            · have h4 : j = 34 := by omega
              simp [h4]) h.own fun k hk => ⟨h.gl k hk, fun e => h.ne (e ▸ hk)⟩
theorem Rf.setLo (h : Rf w G r room off left f g lo L) {lo' : Value} {L' : List Chg} (ho : w.ownsRow 0 83 4 lo' L'.length (L'.flatMap chgCells)) (hl : ∀ k, lo'.ownBlock = some k → G k) : Rf (w.setCell ⟨r, 33, none⟩ lo') G r room off left f g lo' L' :=
  h.set 33 _ (fun j hj => by
    by_cases e : j = 33
    · subst e; rfl
    · rw [if_neg e]; unfold cellsR; simp [e]) ho fun k hk => ⟨hl k hk, fun e => by
        subst e
        obtain ⟨cur, hc⟩ := own_kind ho hk
        obtain ⟨c, hr, _⟩ := h.row
        exact absurd rfl (kind_ne hc hr (by decide))⟩
theorem Rf.setNow (h : Rf w G r room off left f g lo L) (f' : Files) : Rf (w.setCells r 1 (row16 (strs f'))) G r room off left f' g lo L := by
  refine ⟨(row_set16 (o := 1) h.row (strs f')).congr fun j hj => ?_, own_frame h.own fun k hk => heap_setCells_other r _ 1 w k fun e => h.ne (e ▸ hk), h.gr, h.gl, fun k hk => by rw [(setCells_world r _ 1 w).2.2.2]; exact h.lt k hk⟩
  by_cases hj1 : 1 ≤ j ∧ j < 1 + 16
  · obtain ⟨i, rfl⟩ : ∃ i, j = 1 + i := ⟨j - 1, by omega⟩
    rw [with16_in (by omega), cellsR_now i (by omega)]
  · rw [with16_out (by omega)]
    unfold cellsR
    by_cases h0 : j = 0
    · simp [h0]
    · rw [if_neg h0, if_neg h0, if_neg (show ¬ j < 17 by omega), if_neg (show ¬ j < 17 by omega)]
theorem Rf.setSure (h : Rf w G r room off left f g lo L) (g' : Files) : Rf (w.setCells r 17 (row16 (strs g'))) G r room off left f g' lo L := by
  refine ⟨(row_set16 (o := 17) h.row (strs g')).congr fun j hj => ?_, own_frame h.own fun k hk => heap_setCells_other r _ 17 w k fun e => h.ne (e ▸ hk), h.gr, h.gl, fun k hk => by rw [(setCells_world r _ 17 w).2.2.2]; exact h.lt k hk⟩
  by_cases hj1 : 17 ≤ j ∧ j < 17 + 16
  · obtain ⟨i, rfl⟩ : ∃ i, j = 17 + i := ⟨j - 17, by omega⟩
    rw [with16_in (by omega), cellsR_sure i (by omega)]
  · rw [with16_out (by omega)]
    unfold cellsR
    by_cases h0 : j = 0
    · simp [h0]
    · by_cases h1 : j < 17
      · rw [if_neg h0, if_neg h0, if_pos h1, if_pos h1]
      · rw [if_neg h0, if_neg h0, if_neg h1, if_neg h1, if_neg (show ¬ j < 33 by omega), if_neg (show ¬ j < 33 by omega)]
theorem Rf.cell0 (h : Rf w G r room off left f g lo L) : w.cell? ⟨r, 0, none⟩ = some (.int .i64 room) := by rw [h.row.cell (by omega)]; rfl
theorem Rf.cell33 (h : Rf w G r room off left f g lo L) : w.cell? ⟨r, 33, none⟩ = some lo := by rw [h.row.cell (by omega)]; rfl
theorem Rf.cell34 (h : Rf w G r room off left f g lo L) : w.cell? ⟨r, 34, none⟩ = some (.bool off) := by rw [h.row.cell (by omega)]; rfl
theorem Rf.cell35 (h : Rf w G r room off left f g lo L) : w.cell? ⟨r, 35, none⟩ = some (.int .i64 left) := by rw [h.row.cell (by omega)]; rfl
theorem Rf.cellNow (h : Rf w G r room off left f g lo L) {i : Nat} (hi : i < 16) : w.cell? ⟨r, 1 + i, none⟩ = some (.string (f i)) := by rw [h.row.cell (by omega), cellsR_now i hi]; rfl
theorem Rf.rangeNow (h : Rf w G r room off left f g lo L) : w.rangeAt r 1 (row16 (strs f)) := range_of_row h.row (by decide) fun i hi => cellsR_now i hi
theorem Rf.rangeSure (h : Rf w G r room off left f g lo L) : w.rangeAt r 17 (row16 (strs g)) := range_of_row h.row (by decide) fun i hi => cellsR_sure i hi
theorem Rf.grown (h : Rf w G r room off left f g lo L) (hb : w.heap.size ≤ w'.heap.size) (h' : Rf w' G r room off left f g lo L) : Rf w' (Grow G w w') r room off left f g lo L :=
  h'.mono (fun k hk => .inl hk) fun k hk => by
    rcases hk with hk | hk
    · exact h'.lt k hk
    · exact hk.2
end
theorem strs_one (f : Files) : (row16 (strs f)).toArray.all (·.oneCell') = true := by
  refine all_oneCell_toArray fun v hv => ?_
  obtain ⟨i, hi, rfl⟩ := List.mem_map.1 hv
  rfl
def IsRef (w : World) (G : Nat → Prop) (r : Nat) (x : D) : Prop := ∃ lo, Rf w G r x.room x.off x.left x.now x.sure lo x.loose ∧ x.Ok
structure PostR (G : Nat → Prop) (r : Nat) (x' : D) (w w' : World) : Prop where
  disk : IsRef w' (Grow G w w') r x'
  only : Only G w w'
section
variable {w w' : World} {F G : Nat → Prop} {r : Nat} {x : D}
theorem IsRef.below (h : IsRef w G r x) (hb : Below w.heap.size w w') : IsRef w' G r x := by
  obtain ⟨lo, h1, h2⟩ := h; exact ⟨lo, h1.below hb, h2⟩
theorem IsRef.other (h : IsRef w G r x) (ho : Only F w w') (hn : ∀ k, G k → ¬ F k) : IsRef w' G r x := by
  obtain ⟨lo, h1, h2⟩ := h; exact ⟨lo, h1.other ho hn, h2⟩
theorem IsRef.lt (h : IsRef w G r x) {k : Nat} (hk : G k) : k < w.heap.size := by
  obtain ⟨lo, h1, h2⟩ := h; exact h1.lt k hk
theorem IsRef.ok (h : IsRef w G r x) : x.Ok := by
  obtain ⟨lo, h1, h2⟩ := h; exact h2
theorem grow_lt (h : ∀ k, G k → k < w.heap.size) (hs : w.heap.size ≤ w'.heap.size) : ∀ k, Grow G w w' k → k < w'.heap.size := fun k hk => by
  rcases hk with hk | hk
  · have := h k hk; omega
  · exact hk.2
theorem PostR.same (h : IsRef w G r x) (hb : Below w.heap.size w w') : PostR G r x w w' := by
  obtain ⟨lo, h1, h2⟩ := h
  exact ⟨⟨lo, (h1.below hb).mono (fun k hk => .inl hk) (grow_lt h1.lt hb.size), h2⟩, .of_below hb⟩
end

/-! ### op -/
theorem rop_gone (r : Nat) (w : World) (hl : w.cell? ⟨r, 35, none⟩ = some (.int .i64 0)) (o : Bool) (hc : w.cell? ⟨r, 34, none⟩ = some (.bool o)) (hf : w.frozen? ⟨r, 34, none⟩ = false) :
    Calls Try.prog 48 #[ptr r 0] w fun e w' => e = .returned (.int .i64 50) ∧ w' = w.setCell ⟨r, 34, none⟩ (.bool true) := by
  go_enter Try.func48, Try.ntmps48
  go_wp2
  go_ret
  exact ⟨rfl, rfl⟩
theorem rop_any (r : Nat) (w : World) (hl : w.cell? ⟨r, 35, none⟩ = some (.int .i64 (-1))) :
    Calls Try.prog 48 #[ptr r 0] w fun e w' => e = .returned (.int .i64 0) ∧ w = w' := by
  go_enter Try.func48, Try.ntmps48
  go_wp2
  go_ret
  exact ⟨rfl, rfl⟩
theorem rop_less (r : Nat) (w : World) (n : Int) (hn : 0 < n) (hn2 : n ≤ 9223372036854775807) (hl : w.cell? ⟨r, 35, none⟩ = some (.int .i64 n)) (hf : w.frozen? ⟨r, 35, none⟩ = false) :
    Calls Try.prog 48 #[ptr r 0] w fun e w' => e = .returned (.int .i64 0) ∧ w' = w.setCell ⟨r, 35, none⟩ (.int .i64 (n - 1)) := by
  have h2 : (n == 0) = false := by simp; omega
  go_enter Try.func48, Try.ntmps48
  go_wp2
  go_ret
  exact ⟨rfl, rfl⟩
/-- An operation is counted, or the power goes. -/
structure RopDone (w w' : World) (G : Nat → Prop) (r : Nat) (x1 : D) (f g : Files) (lo : Value) (L : List Chg) : Prop where
  rf : Rf w' G r x1.room x1.off x1.left f g lo L
  only : Only (· = r) w w'
  size : w'.heap.size = w.heap.size
theorem rop_at {x x1 : D} {E : Int} (h : x.op = (E, x1)) (hok : x.Ok) (w : World) (G : Nat → Prop) (r : Nat) (f g : Files) (lo : Value) (L : List Chg) (hr : Rf w G r x.room x.off x.left f g lo L) :
    Calls Try.prog 48 #[ptr r 0] w fun e w' => e = .returned (.int .i64 E) ∧ RopDone w w' G r x1 f g lo L := by
  unfold D.op at h
  by_cases h0 : x.left = 0
  · rw [if_pos h0] at h
    obtain ⟨rfl, rfl⟩ := Prod.mk.inj h
    have hc := hr.cell35
    rw [h0] at hc
    exact (rop_gone r w hc _ hr.cell34 (hr.row.frozen 34)).mono fun e w' ⟨he, hw⟩ => ⟨he, by rw [hw]; exact ⟨hr.setOff true, Only.setCell w r 34 _, by simp⟩⟩
  · rw [if_neg h0] at h
    obtain ⟨rfl, rfl⟩ := Prod.mk.inj h
    by_cases h1 : x.left = -1
    · have hc := hr.cell35
      rw [h1] at hc
      refine (rop_any r w hc).mono fun e w' ⟨he, hw⟩ => ⟨he, ?_⟩
      subst hw
      simp only [if_pos h1]
      rw [h1] at hr
      exact ⟨hr, Only.refl _ _, rfl⟩
    · have := hok.left1
      refine (rop_less r w x.left (by omega) hok.left2 hr.cell35 (hr.row.frozen 35)).mono fun e w' ⟨he, hw⟩ => ⟨he, ?_⟩
      subst hw
      simp only [if_neg h1]
      exact ⟨hr.setLeft _, Only.setCell w r 35 _, by simp⟩

/-! ### New, Read, Power -/
theorem rnew_bad (n : Int) (h : n < 1 ∨ 4194304 < n) (w : World) : Calls Try.prog 22 #[.int .i64 n] w fun e w' => e = .returned (.tuple #[.pointer none, .int .i64 2]) ∧ w = w' := by
  by_cases h1 : n < 1
  · clear h
    go_enter Try.func22, Try.ntmps22
    go_wp2
    go_ret2
    exact ⟨rfl, rfl⟩
  · have h2 : 4194304 < n := by omega
    have hd : decide (n < 1) = false := by simp; omega
    clear h
    go_enter Try.func22, Try.ntmps22
    go_wp2
    go_ret2
    exact ⟨rfl, rfl⟩
theorem rread_at {x : D} {i E : Int} {s : ByteArray} (h : x.read i = (s, E)) (w : World) (G : Nat → Prop) (r : Nat) (hx : IsRef w G r x) :
    Calls Try.prog 25 #[ptr r 0, .int .i64 i] w fun e w' => e = .returned (.tuple #[.string s, .int .i64 E]) ∧ w = w' := by
  obtain ⟨lo, hr, _⟩ := hx
  have h34 := hr.cell34
  unfold D.read at h
  by_cases h1 : x.off = true
  · rw [if_pos h1] at h
    obtain ⟨rfl, rfl⟩ := Prod.mk.inj h
    rw [h1] at h34
    clear hr h
    go_enter Try.func25, Try.ntmps25
    go_wp2
    go_ret2
    exact ⟨rfl, rfl⟩
  · rw [if_neg h1] at h
    rw [show x.off = false by simpa using h1] at h34
    by_cases h2 : isFile i = false
    · rw [if_pos h2] at h
      obtain ⟨rfl, rfl⟩ := Prod.mk.inj h
      have h3 := isFile_not.1 h2
      clear hr h h2
      by_cases h4 : i < 0
      · clear h3
        go_enter Try.func25, Try.ntmps25
        go_wp2
        go_ret2
        exact ⟨rfl, rfl⟩
      · have h5 : 15 < i := by omega
        have h6 : (0 : Int) ≤ i := by omega
        clear h3 h4
        go_enter Try.func25, Try.ntmps25
        go_wp2
        go_ret2
        exact ⟨rfl, rfl⟩
    · rw [if_neg h2] at h
      have hi := isFile_iff.1 (show isFile i = true by simpa using h2)
      obtain ⟨j, rfl⟩ : ∃ j : Nat, i = j := ⟨i.toNat, by omega⟩
      rw [Int.toNat_natCast] at h
      obtain ⟨rfl, rfl⟩ := Prod.mk.inj h
      have hc := hr.cellNow (i := j) (by omega)
      obtain ⟨s, es⟩ : ∃ s, x.now j = s := ⟨_, rfl⟩
      rw [es] at hc ⊢
      have hi0 : (0 : Int) ≤ (j : Int) := by omega
      have hi1 : (j : Int) ≤ 15 := by omega
      clear hr h h2 es hi
      go_enter Try.func25, Try.ntmps25
      go_wp2
      go_ret2
      exact ⟨rfl, rfl⟩
theorem rpower_at {x x2 : D} {E n : Int} (h : x.power n = (E, x2)) (hn : n ≤ 9223372036854775807) (w : World) (G : Nat → Prop) (r : Nat) (hx : IsRef w G r x) :
    Calls Try.prog 42 #[ptr r 0, .int .i64 n] w fun e w' => e = .returned (.int .i64 E) ∧ PostR G r x2 w w' := by
  have hok2 : x2.Ok := by have := D.power_ok hx.ok hn; rw [h] at this; exact this
  obtain ⟨lo, hr, hok⟩ := id hx
  have h34 := hr.cell34
  unfold D.power at h
  by_cases h1 : x.off = true
  · rw [if_pos h1] at h
    obtain ⟨rfl, rfl⟩ := Prod.mk.inj h
    rw [h1] at h34
    have HX := Lib.hid hx
    clear hr h hx
    go_enter Try.func42, Try.ntmps42
    go_wp2
    go_ret
    exact ⟨rfl, PostR.same HX.out (Below.refl _ _)⟩
  · rw [if_neg h1] at h
    rw [show x.off = false by simpa using h1] at h34
    by_cases h2 : n < 0
    · rw [if_pos h2] at h
      obtain ⟨rfl, rfl⟩ := Prod.mk.inj h
      have HX := Lib.hid hx
      clear hr h hx
      go_enter Try.func42, Try.ntmps42
      go_wp2
      go_ret
      exact ⟨rfl, PostR.same HX.out (Below.refl _ _)⟩
    · rw [if_neg h2] at h
      obtain ⟨rfl, rfl⟩ := Prod.mk.inj h
      have hc := hr.cell35
      have hf := hr.row.frozen 35
      have HR := Lib.hid hr
      have HO := Lib.hid hok2
      have h2' : (0 : Int) ≤ n := by omega
      clear hr h hx h2
      go_enter Try.func42, Try.ntmps42
      go_wp2
      go_ret
      have hs := HR.out.setLeft n
      exact ⟨rfl, ⟨lo, hs.mono (fun k hk => .inl hk) (grow_lt HR.out.lt (by simp)), HO.out⟩, (Only.setCell w r 35 _).mono fun k hk => by rw [hk]; exact HR.out.gr⟩
end Go.Proofs.Ytdajpaigahhhcaa.dsk

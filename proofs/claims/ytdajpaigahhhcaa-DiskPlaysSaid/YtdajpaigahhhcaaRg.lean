/- The reference's Append, Cut, Move, Sync. -/
import Derived.Test.YtdajpaigahhhcaaRe
namespace Go.Proofs.Ytdajpaigahhhcaa.dsk
set_option linter.unusedSimpArgs false
set_option linter.unusedVariables false
open Go.RowKit

theorem bad3_file {K F N : Int} (hK : K ≠ 3) : Bad3 K F N ↔ isFile F = false := by
  rw [isFile_not]; unfold Bad3
  constructor
  · rintro (h | h | ⟨h, _⟩)
    · exact .inl h
    · exact .inr (by omega)
    · exact absurd h hK
  · rintro (h | h)
    · exact .inl h
    · exact .inr (.inl (by omega))
theorem say_app (x : D) (i : Int) (s : ByteArray) : x.say 1 i 0 s (.app i.toNat s) = x.append i s := by
  unfold D.say D.append
  by_cases h1 : x.off = true
  · rw [if_pos h1, if_pos h1]
  · rw [if_neg h1, if_neg h1]
    by_cases h2 : isFile i = false
    · rw [if_pos ((bad3_file (by decide)).2 h2), if_pos h2]
    · rw [if_neg (fun h => h2 ((bad3_file (by decide)).1 h)), if_neg h2]
      by_cases h3 : x.room' < s.size
      · rw [if_pos (show Full x 1 s from ⟨rfl, h3⟩), if_pos h3]
      · rw [if_neg (fun h : Full x 1 s => h3 h.2), if_neg h3, if_neg (fun h : Far x 1 i 0 => absurd h.1 (by decide))]
theorem say_cut (x : D) (i n : Int) : x.say 2 i n ⟨#[]⟩ (.cut i.toNat n.toNat) = x.cut i n := by
  unfold D.say D.cut
  by_cases h1 : x.off = true
  · rw [if_pos h1, if_pos h1]
  · rw [if_neg h1, if_neg h1]
    by_cases h2 : isFile i = false
    · rw [if_pos ((bad3_file (by decide)).2 h2), if_pos h2]
    · rw [if_neg (fun h => h2 ((bad3_file (by decide)).1 h)), if_neg h2, if_neg (fun h : Full x 2 _ => absurd h.1 (by decide))]
      by_cases h3 : n < 0 ∨ ((x.now i.toNat).size : Int) < n
      · rw [if_pos (show Far x 2 i n from ⟨rfl, h3⟩), if_pos h3]
      · rw [if_neg (fun h : Far x 2 i n => h3 h.2), if_neg h3]
theorem say_mov (x : D) (a b : Int) : x.say 3 a b ⟨#[]⟩ (.mov a.toNat b.toNat) = x.move a b := by
  unfold D.say D.move
  by_cases h1 : x.off = true
  · rw [if_pos h1, if_pos h1]
  · rw [if_neg h1, if_neg h1]
    have ha := isFile_not (i := a); have hb := isFile_not (i := b)
    by_cases h2 : isFile a = false ∨ isFile b = false
    · rw [if_pos h2, if_pos]
      unfold Bad3
      rw [ha, hb] at h2
      omega
    · rw [if_neg h2]
      by_cases h3 : a = b
      · rw [if_pos h3, if_pos]
        unfold Bad3
        exact .inr (.inr ⟨rfl, .inr (.inr h3.symm)⟩)
      · rw [if_neg h3, if_neg, if_neg (fun h : Full x 3 _ => absurd h.1 (by decide)), if_neg (fun h : Far x 3 a b => absurd h.1 (by decide))]
        unfold Bad3
        rw [ha, hb] at h2
        omega
theorem made_len_app {x : D} (hok : x.Ok) {i : Int} {s : ByteArray} (h3 : ¬ Bad3 1 i 0) (h5 : ¬ Full x 1 s) : ok x.room x.now (.app i.toNat s) ∧ chgCells (.app i.toNat s) = [.int .i64 1, .int .i64 i, .int .i64 0, .string s] ∧
    ∀ W : World, Calls Try.prog 49 #[.agg (row16 (strs x.now)).toArray, .agg #[.int .i64 1, .int .i64 i, .int .i64 0, .string s], .int .i64 s.size] W fun e w' => e = .returned (.agg (row16 (strs (doIt x.now (.app i.toNat s)))).toArray) ∧ Below W.heap.size W w' := by
  have hi : 0 ≤ i ∧ i < 16 := by unfold Bad3 at h3; omega
  obtain ⟨k, rfl⟩ : ∃ k : Nat, i = k := ⟨i.toNat, by omega⟩
  rw [Int.toNat_natCast]
  have h6 : ¬ x.room' < s.size := fun h => h5 ⟨rfl, h⟩
  have hle := le_total x.now (i := k) (by omega)
  have hnow := hok.now
  have hroom := hok.room2
  unfold D.room' at h6
  refine ⟨⟨by omega, by omega⟩, rfl, fun W => ?_⟩
  have h := made_app x.now k s s.size W (by omega) (by omega)
  have e : part x.now (.app k s) s.size = doIt x.now (.app k s) := by
    show upd x.now k (x.now k ++ s.extract 0 (win s.size s.size)) = _
    rw [win_full, extract_whole]; rfl
  rwa [e] at h
theorem rappend_at {x x2 : D} {E i : Int} {s : ByteArray} (h : x.append i s = (E, x2)) (hlen : x.loose.length ≤ 300) (w : World) (G : Nat → Prop) (r : Nat) (hx : IsRef w G r x) :
    Calls Try.prog 38 #[ptr r 0, .int .i64 i, .string s] w fun e w' => e = .returned (.int .i64 E) ∧ PostR G r x2 w w' := by
  have HC := Lib.hid (rchange x x2 E 1 i 0 s (.app i.toNat s) ((say_app x i s).trans h) hlen (fun h3 h5 _ => made_len_app hx.ok h3 h5) w G r hx)
  clear h hlen hx
  go_enter Try.func38, Try.ntmps38
  go_wp2_with fail
  refine HC.out.mono ?_
  rintro e w' ⟨rfl, hp⟩
  have HP := Lib.hid hp
  clear hp
  go_wp2_with fail
  go_ret
  exact ⟨rfl, HP.out⟩
theorem rcut_at {x x2 : D} {E i n : Int} (h : x.cut i n = (E, x2)) (hlen : x.loose.length ≤ 300) (w : World) (G : Nat → Prop) (r : Nat) (hx : IsRef w G r x) :
    Calls Try.prog 39 #[ptr r 0, .int .i64 i, .int .i64 n] w fun e w' => e = .returned (.int .i64 E) ∧ PostR G r x2 w w' := by
  have HC := Lib.hid (rchange x x2 E 2 i n ⟨#[]⟩ (.cut i.toNat n.toNat) ((say_cut x i n).trans h) hlen (fun h3 _ h7 => by
    have hi : 0 ≤ i ∧ i < 16 := by unfold Bad3 at h3; omega
    obtain ⟨k, rfl⟩ : ∃ k : Nat, i = k := ⟨i.toNat, by omega⟩
    rw [Int.toNat_natCast]
    unfold Far at h7
    rw [Int.toNat_natCast] at h7
    obtain ⟨m, rfl⟩ : ∃ m : Nat, n = m := ⟨n.toNat, by omega⟩
    rw [Int.toNat_natCast]
    exact ⟨⟨by omega, by omega⟩, rfl, fun W => made_cut x.now k m _ W (by omega) (by omega)⟩) w G r hx)
  clear h hlen hx
  go_enter Try.func39, Try.ntmps39
  go_wp2_with fail
  refine HC.out.mono ?_
  rintro e w' ⟨rfl, hp⟩
  have HP := Lib.hid hp
  clear hp
  go_wp2_with fail
  go_ret
  exact ⟨rfl, HP.out⟩
theorem rmove_at {x x2 : D} {E a b : Int} (h : x.move a b = (E, x2)) (hlen : x.loose.length ≤ 300) (w : World) (G : Nat → Prop) (r : Nat) (hx : IsRef w G r x) :
    Calls Try.prog 40 #[ptr r 0, .int .i64 a, .int .i64 b] w fun e w' => e = .returned (.int .i64 E) ∧ PostR G r x2 w w' := by
  have HC := Lib.hid (rchange x x2 E 3 a b ⟨#[]⟩ (.mov a.toNat b.toNat) ((say_mov x a b).trans h) hlen (fun h3 _ _ => by
    unfold Bad3 at h3
    obtain ⟨k, rfl⟩ : ∃ k : Nat, a = k := ⟨a.toNat, by omega⟩
    obtain ⟨m, rfl⟩ : ∃ m : Nat, b = m := ⟨b.toNat, by omega⟩
    rw [Int.toNat_natCast, Int.toNat_natCast]
    exact ⟨⟨by omega, by omega, by omega⟩, rfl, fun W => made_mov x.now k m _ W (by omega) (by omega)⟩) w G r hx)
  clear h hlen hx
  go_enter Try.func40, Try.ntmps40
  go_wp2_with fail
  refine HC.out.mono ?_
  rintro e w' ⟨rfl, hp⟩
  have HP := Lib.hid hp
  clear hp
  go_wp2_with fail
  go_ret
  exact ⟨rfl, HP.out⟩

/-! ### Sync -/
theorem sync_last {w w3 W5 : World} {G : Nat → Prop} {r : Nat} {x x1 : D} {lo : Value} (hx : IsRef w G r x) (hd : RopDone w w3 G r x1 x.now x.sure lo x.loose) (h5 : Rf W5 G r x1.room x1.off x1.left x.now x.now lo x.loose ∧ Only (· = r) w3 W5) (hok : ({ x1 with sure := x.now, loose := [] } : D).Ok) :
    PostR G r { x1 with sure := x.now, loose := [] } w (W5.setCell ⟨r, 33, none⟩ (.slice none 0 0)) := by
  have h6 := h5.1.setLo (lo' := .slice none 0 0) (L' := []) (World.ownsRow_nil _ _ _ _) fun k hk => by simp [Value.ownBlock] at hk
  exact post_of (Below.refl _ _) ((hd.only.then h5.2).then (Only.setCell W5 r 33 _)) ⟨_, h6, hok⟩ fun k hk => hx.lt hk
set_option maxHeartbeats 800000 in
theorem rsync_at {x x2 : D} {E : Int} (h : x.sync = (E, x2)) (w : World) (G : Nat → Prop) (r : Nat) (hx : IsRef w G r x) : Calls Try.prog 41 #[ptr r 0] w fun e w' => e = .returned (.int .i64 E) ∧ PostR G r x2 w w' := by
  have hok2 : x2.Ok := by have := D.sync_ok hx.ok; rwa [h] at this
  obtain ⟨lo, hr, hok⟩ := id hx
  have h34 := hr.cell34
  have HX := Lib.hid hx
  have HR := Lib.hid hr
  have HOK := Lib.hid hok
  have HOK2 := Lib.hid hok2
  clear hx hr hok hok2
  unfold D.sync at h
  by_cases ho : x.off = true
  · rw [if_pos ho] at h
    obtain ⟨rfl, rfl⟩ := Prod.mk.inj h
    rw [ho] at h34
    clear h
    go_enter Try.func41, Try.ntmps41
    go_wp2
    go_ret
    exact ⟨rfl, PostR.same HX.out (Below.refl _ _)⟩
  · rw [if_neg ho] at h
    rw [show x.off = false by simpa using ho] at h34
    obtain ⟨E1, x1, hop⟩ : ∃ E1 x1, x.op = (E1, x1) := ⟨_, _, rfl⟩
    rw [hop] at h
    have HOP := Lib.hid (fun (_ : Unit) => hop)
    clear hop ho
    by_cases h0 : E1 = 0
    · subst h0
      rw [if_pos rfl] at h
      obtain ⟨rfl, rfl⟩ := Prod.mk.inj h
      clear h
      go_enter Try.func41, Try.ntmps41
      go_wp2_with fail
      refine (rop_at (HOP.out ()) HOK.out _ G r x.now x.sure lo x.loose HR.out).mono ?_
      rintro e w3 ⟨rfl, hdone⟩
      have HD := Lib.hid hdone
      clear hdone h34
      go_wp2_with (first | (refine wpList_load_mid rfl 43 (.tmp 16) rfl r 1 (by simp [Act.eval]) (row16 (strs x.now)) _ HD.out.rf.rangeNow Try.underlying43 rfl (by rw [row16_length]; exact info43) ?_) | (refine store_sure HD.out.rf (g' := x.now) (.tmp 19) (.tmp 17) rfl rfl rfl (by simp [Act.eval]) (by simp [Act.eval]) ?_; intro W5 H5; have hcz := H5.out.1.cell33; have hfz := H5.out.1.row.frozen 33))
      go_ret
      exact ⟨rfl, sync_last HX.out HD.out H5.out HOK2.out⟩
    · rw [if_neg h0] at h
      obtain ⟨rfl, rfl⟩ := Prod.mk.inj h
      have h0' : (E1 != 0) = true := by simp [h0]
      clear h h0
      go_enter Try.func41, Try.ntmps41
      go_wp2_with fail
      refine (rop_at (HOP.out ()) HOK.out _ G r x.now x.sure lo x.loose HR.out).mono ?_
      rintro e w3 ⟨rfl, hdone⟩
      have HD := Lib.hid hdone
      clear hdone h34
      go_wp2_with fail
      go_ret
      exact ⟨rfl, post_of (Below.refl _ _) HD.out.only (rf_op (HOP.out ()) HOK.out HD.out.rf) fun k hk => HX.out.lt hk⟩
end Go.Proofs.Ytdajpaigahhhcaa.dsk

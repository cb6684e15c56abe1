/- The small thing that every statement of the layer asks: 'works' answers true. FrameKnown and FramePuts return true. -/
import Derived.Test.YtcaeigjeoeahpaaC
namespace Go.Proofs.Ytcaeigjeoeahpaa
open Go.RowKit byt

theorem put_abc : ∃ s : ByteArray, putF 7 ⟨#[97, 98, 99]⟩ = (s, 0) ∧ s.size = 9 ∧ takeF (s ++ ⟨#[120]⟩) = (7, ⟨#[97, 98, 99]⟩, 9, 0) := by
  have hp : (⟨#[97, 98, 99]⟩ : ByteArray).size ≤ 65536 := by decide
  have hz : (shut (body 7 (txt (sev (tf (⟨#[97, 98, 99]⟩ : ByteArray).size)) ++ ⟨#[97, 98, 99]⟩))).size = 9 := by
    rw [shut_size, body_size, ByteArray.size_append, txt_size, show (tf (⟨#[97, 98, 99]⟩ : ByteArray).size) = 6 from rfl, sev_small (by omega)]
    rfl
  refine ⟨_, putF_fine (by omega) hp, hz, ?_⟩
  have := put_take (k := 7) ⟨#[120]⟩ (by omega) (by omega) hp
  rwa [hz] at this
theorem put_empty : ∃ s : ByteArray, putF 1 ⟨#[]⟩ = (s, 0) ∧ s.size = 6 := by
  have hp : (⟨#[]⟩ : ByteArray).size ≤ 65536 := by decide
  refine ⟨_, putF_fine (by omega) hp, ?_⟩
  rw [shut_size, body_size, ByteArray.size_append, txt_size, show (tf (⟨#[]⟩ : ByteArray).size) = 0 from rfl, sev_small (by omega)]
  rfl
theorem take_empty : takeF ⟨#[]⟩ = (0, ⟨#[]⟩, 0, 20) := takeF_none rfl
theorem take_two : takeF ⟨#[1, 0]⟩ = (0, ⟨#[]⟩, 0, 20) := by
  refine takeF_short (t := txt []) (m := 1) (by decide) (by decide) ?_ (by decide)
  kernel_rfl

theorem putF_lit {a : Int} {k : Nat} {p t : ByteArray} {c : Int} (ha : a = k) (h : putF k p = (t, c)) (w : World) (hk : k < 256) (hp : p.size ≤ 9223372036854775807) : Calls Try.prog 9 #[.int .u8 a, .string p] w fun e w' => e = .returned (.tuple #[.string t, .int .i64 c]) ∧ Below w.heap.size w w' := by
  subst ha; exact putF_at h w hk hp
set_option maxHeartbeats 800000 in
set_option maxRecDepth 1000000 in
theorem works_any (w : World) : Calls Try.prog 11 #[] w fun e w' => e = .returned (.bool true) ∧ Below w.heap.size w w' := by
  obtain ⟨s, h1, h2, h3⟩ := put_abc
  have H1 := Lib.hid h1; have H3 := Lib.hid h3
  clear h1 h3
  have hz : (s ++ (⟨#[120]⟩ : ByteArray)).size ≤ 9223372036854775807 := by rw [ByteArray.size_append, h2]; decide
  go_enter Try.func11, Try.ntmps11
  go_wp2_with fail
  with_reducible refine (putF_lit (a := 7) rfl H1.out w (by decide) (by decide)).mono ?_
  rintro e w1 ⟨rfl, hb⟩
  have HB := Lib.hid hb; clear hb
  go_wp2_with fail
  with_reducible refine (take_at H3.out _ hz).mono ?_
  rintro e w2 ⟨rfl, hb⟩
  have HB := Lib.hid (below_on HB.out hb); clear hb
  go_wp2_with fail
  go_ret
  exact ⟨rfl, HB.out⟩

set_option maxHeartbeats 800000 in
set_option maxRecDepth 1000000 in
theorem law_known (w : World) : Calls Try.prog 3 #[] w fun e w' => e = .returned (.bool true) ∧ Below w.heap.size w w' := by
  obtain ⟨s, h1, h2⟩ := put_empty
  have H1 := Lib.hid h1
  have H2 := Lib.hid (putF_zero ⟨#[97]⟩)
  have H3 := Lib.hid take_empty
  have H4 := Lib.hid take_two
  clear h1
  go_enter Try.func3, Try.ntmps3
  go_wp2_with fail
  with_reducible refine (putF_lit (a := 1) rfl H1.out w (by decide) (by decide)).mono ?_
  rintro e w1 ⟨rfl, hb⟩
  have HB := Lib.hid hb; clear hb
  go_wp2_with fail
  with_reducible refine (putF_lit (a := 0) rfl H2.out _ (by decide) (by decide)).mono ?_
  rintro e w2 ⟨rfl, hb⟩
  have HB := Lib.hid (below_on HB.out hb); clear hb
  go_wp2_with fail
  with_reducible refine (take_at H3.out _ (by decide)).mono ?_
  rintro e w3 ⟨rfl, hb⟩
  have HB := Lib.hid (below_on HB.out hb); clear hb
  go_wp2_with fail
  with_reducible refine (take_at H4.out _ (by decide)).mono ?_
  rintro e w4 ⟨rfl, hb⟩
  have HB := Lib.hid (below_on HB.out hb); clear hb
  go_wp2_with fail
  refine (works_any _).mono ?_
  rintro e w5 ⟨rfl, hb⟩
  have HB := Lib.hid (below_on HB.out hb); clear hb
  go_wp2_with fail
  go_ret
  exact ⟨rfl, HB.out⟩

theorem u8_nat {a : Int} (h : (Lit.int .u8 a).wf = true) : ∃ k : Nat, a = k ∧ k < 256 := by
  simp [Lit.wf, IntKind.min, IntKind.max, IntKind.signed, IntKind.bits] at h
  exact ⟨a.toNat, by omega, by omega⟩

set_option maxHeartbeats 800000 in
set_option maxRecDepth 1000000 in
theorem law_puts (a : Int) (p : ByteArray) (hwf : (Lit.int .u8 a).wf = true) (hp : p.size ≤ maxLen) (w : World) : Calls Try.prog 4 #[.int .u8 a, .string p] w fun e w' => e = .returned (.bool true) ∧ Below w.heap.size w w' := by
  obtain ⟨k, rfl, hk⟩ := u8_nat hwf
  unfold maxLen at hp
  by_cases hl : 70000 < p.size
  · go_enter Try.func4, Try.ntmps4
    go_wp2_with fail
    refine (works_any _).mono ?_
    rintro e w1 ⟨rfl, hb⟩
    have HB := Lib.hid hb; clear hb
    go_wp2_with fail
    go_ret
    exact ⟨rfl, HB.out⟩
  · obtain ⟨t, c, h1⟩ : ∃ t c, putF k p = (t, c) := ⟨_, _, rfl⟩
    have H1 := Lib.hid h1; clear h1
    go_enter Try.func4, Try.ntmps4
    go_wp2_with fail
    with_reducible refine (putF_at H1.out w hk (by omega)).mono ?_
    rintro e w1 ⟨rfl, hb⟩
    have HB := Lib.hid hb; clear hb
    go_wp2_with fail
    with_reducible refine (refPutF_at H1.out _ hk (by omega)).mono ?_
    rintro e w2 ⟨rfl, hb⟩
    have HB := Lib.hid (below_on HB.out hb); clear hb
    go_wp2_with fail
    refine (works_any _).mono ?_
    rintro e w5 ⟨rfl, hb⟩
    have HB := Lib.hid (below_on HB.out hb); clear hb
    go_wp2_with fail
    go_ret
    exact ⟨rfl, HB.out⟩
end Go.Proofs.Ytcaeigjeoeahpaa

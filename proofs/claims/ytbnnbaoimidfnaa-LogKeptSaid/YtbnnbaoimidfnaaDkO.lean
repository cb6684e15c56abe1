/- A disk that the call made: each method in one word; the small thing that every statement of the layer asks: 'works' answers true. -/
import Derived.Test.YtbnnbaoimidfnaaDkN
namespace Go.Proofs.Ytbnnbaoimidfnaa.dsk
set_option linter.unusedSimpArgs false
set_option linter.unusedVariables false
open Go.RowKit

theorem crash_at {x : D} (n k : Int) (h1 : -9223372036854775808 ≤ n) (h2 : n ≤ 9223372036854775807) (h3 : -9223372036854775808 ≤ k) (h4 : k ≤ 9223372036854775807) (w : World) (F : Nat → Prop) (d : Nat) (hx : IsDisk w F d x) (hlen : x.loose.length ≤ 1099511627776) :
    Calls Try.prog 17 #[ptr d 0, .int .i64 n, .int .i64 k] w fun e w' => e = .returned (.tuple #[]) ∧ Post F d (x.crash n k) w w' := by
  obtain ⟨vs, us, lo, ps, hr, hR, hok, hd⟩ := hx
  obtain ⟨a, cap, rfl⟩ : ∃ a cap, lo = .slice a x.loose.length cap := by
    rcases hR.loose.2 with ⟨rfl, h0⟩ | ⟨g, cap, cur, rfl, _⟩
    · exact ⟨none, 0, by rw [h0]⟩
    · exact ⟨_, cap, rfl⟩
  exact crash_some n k h1 h2 h3 h4 w F d _ cap a rfl vs us ps hlen hr hR hok hd

/-- d is a disk that was made behind w0; of what lay below B nothing has turned. -/
def Here (B : Nat) (w0 : World) (d : Nat) (x : D) (w : World) : Prop := ∃ F, IsDisk w F d x ∧ (∀ k, F k → B ≤ k) ∧ Below B w0 w ∧ B ≤ w0.heap.size
theorem Here.post {B d : Nat} {w0 w w' : World} {x x2 : D} {F : Nat → Prop} (hF : ∀ k, F k → B ≤ k) (hb : Below B w0 w) (hB : B ≤ w0.heap.size) (p : Post F d x2 w w') : Here B w0 d x2 w' := by
  have hsz := hb.size
  refine ⟨_, p.disk, fun k hk => ?_, hb.trans (p.only.below (by omega) hF), hB⟩
  rcases hk with h | ⟨h, _⟩
  · exact hF k h
  · omega
theorem Here.on {B d : Nat} {w0 w w' : World} {x : D} (h : Here B w0 d x w) (hb : Below w.heap.size w w') : Here B w0 d x w' := by
  obtain ⟨F, hx, hF, hb0, hB⟩ := h
  have := hb0.size
  exact ⟨F, hx.below hb, hF, hb0.trans (hb.mono (by omega)), hB⟩
theorem Here.below {B d : Nat} {w0 w : World} {x : D} (h : Here B w0 d x w) : Below B w0 w := by
  obtain ⟨F, hx, hF, hb0, hB⟩ := h; exact hb0
theorem Here.ok {B d : Nat} {w0 w : World} {x : D} (h : Here B w0 d x w) : x.Ok := by
  obtain ⟨F, hx, _⟩ := h; exact hx.ok
theorem new_here (n : Nat) (h1 : 1 ≤ n) (h2 : n ≤ 4194304) (w : World) : Calls Try.prog 7 #[.int .i64 n] w fun e w' => e = .returned (.tuple #[ptr w.heap.size 0, .int .i64 0]) ∧ Here w.heap.size w w.heap.size (D.fresh n) w' :=
  (new_good n h1 h2 w).mono fun e w' ⟨he, hx, hb, _⟩ => ⟨he, _, hx, fun k hk => by rw [hk]; exact Nat.le_refl _, hb, Nat.le_refl _⟩
section
variable {B d : Nat} {w0 w : World} {x x2 : D} {E : Int}
theorem append_here {i : Int} {s : ByteArray} (h : x.append i s = (E, x2)) (hx : Here B w0 d x w) (hlen : x.loose.length ≤ 1099511627776) :
    Calls Try.prog 24 #[ptr d 0, .int .i64 i, .string s] w fun e w' => e = .returned (.int .i64 E) ∧ Here B w0 d x2 w' := by
  obtain ⟨F, hd, hF, hb, hB⟩ := hx
  exact (append_at h w F d hd hlen).mono fun e w' ⟨he, p⟩ => ⟨he, Here.post (x := x) hF hb hB p⟩
theorem cut_here {i n : Int} (h : x.cut i n = (E, x2)) (hx : Here B w0 d x w) (hlen : x.loose.length ≤ 1099511627776) :
    Calls Try.prog 25 #[ptr d 0, .int .i64 i, .int .i64 n] w fun e w' => e = .returned (.int .i64 E) ∧ Here B w0 d x2 w' := by
  obtain ⟨F, hd, hF, hb, hB⟩ := hx
  exact (cut_at h w F d hd hlen).mono fun e w' ⟨he, p⟩ => ⟨he, Here.post (x := x) hF hb hB p⟩
theorem sync_here (h : x.sync = (E, x2)) (hx : Here B w0 d x w) : Calls Try.prog 26 #[ptr d 0] w fun e w' => e = .returned (.int .i64 E) ∧ Here B w0 d x2 w' := by
  obtain ⟨F, hd, hF, hb, hB⟩ := hx
  exact (sync_at h w F d hd).mono fun e w' ⟨he, p⟩ => ⟨he, Here.post (x := x) hF hb hB p⟩
theorem power_here {n : Int} (h : x.power n = (E, x2)) (hn : n ≤ 9223372036854775807) (hx : Here B w0 d x w) : Calls Try.prog 16 #[ptr d 0, .int .i64 n] w fun e w' => e = .returned (.int .i64 E) ∧ Here B w0 d x2 w' := by
  obtain ⟨F, hd, hF, hb, hB⟩ := hx
  exact (power_at h hn w F d hd).mono fun e w' ⟨he, p⟩ => ⟨he, Here.post (x := x) hF hb hB p⟩
theorem crash_here {n k : Int} (h : x.crash n k = x2) (h1 : -9223372036854775808 ≤ n) (h2 : n ≤ 9223372036854775807) (h3 : -9223372036854775808 ≤ k) (h4 : k ≤ 9223372036854775807) (hx : Here B w0 d x w) (hlen : x.loose.length ≤ 1099511627776) :
    Calls Try.prog 17 #[ptr d 0, .int .i64 n, .int .i64 k] w fun e w' => e = .returned (.tuple #[]) ∧ Here B w0 d x2 w' := by
  subst h
  obtain ⟨F, hd, hF, hb, hB⟩ := hx
  exact (crash_at n k h1 h2 h3 h4 w F d hd hlen).mono fun e w' ⟨he, p⟩ => ⟨he, Here.post (x := x) hF hb hB p⟩
theorem read_here {i : Int} {s : ByteArray} (h : x.read i = (s, E)) (hx : Here B w0 d x w) : Calls Try.prog 19 #[ptr d 0, .int .i64 i] w fun e w' => e = .returned (.tuple #[.string s, .int .i64 E]) ∧ Here B w0 d x w' := by
  have hx' := hx
  obtain ⟨F, hd, hF, hb, hB⟩ := hx
  exact (read_at h w F d hd).mono fun e w' ⟨he, hbb⟩ => ⟨he, hx'.on hbb⟩
theorem left_here {r : Int} (h : x.room' = r) (hx : Here B w0 d x w) : Calls Try.prog 33 #[ptr d 0] w fun e w' => e = .returned (.int .i64 r) ∧ w = w' := by
  obtain ⟨F, hd, hF, hb, hB⟩ := hx
  exact room_at hd h
end

end Go.Proofs.Ytbnnbaoimidfnaa.dsk

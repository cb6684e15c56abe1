/- A log, or a disk, beside blocks of the caller's that no call touches: each method in one word. -/
import Derived.Test.YtbnnbaoimidfnaaH
namespace Go.Proofs.Ytbnnbaoimidfnaa.lg
set_option linter.unusedSimpArgs false
set_option linter.unusedVariables false
open Go.RowKit byt frm dsk

/-- Numbers that a machine has. -/
def fitI (n : Int) : Prop := -9223372036854775808 ≤ n ∧ n ≤ 9223372036854775807
def Same (K : Nat → Prop) (w w' : World) : Prop := ∀ k, K k → w'.heap[k]? = w.heap[k]?
theorem Same.refl (K : Nat → Prop) (w : World) : Same K w w := fun _ _ => rfl
theorem Same.trans {K : Nat → Prop} {a b c : World} (h : Same K a b) (k : Same K b c) : Same K a c := fun i hi => (k i hi).trans (h i hi)
def HereW (B : Nat) (w0 : World) (d : Nat) (x : D) (K : Nat → Prop) (w : World) : Prop := ∃ F, IsDisk w F d x ∧ (∀ k, F k → B ≤ k ∧ ¬ K k) ∧ Below B w0 w ∧ B ≤ w0.heap.size ∧ ∀ k, K k → k < w.heap.size
def LogW (B : Nat) (w0 : World) (l d : Nat) (x : D) (y : Lg) (K : Nat → Prop) (w : World) : Prop := ∃ G, IsLog w G l d x y ∧ (∀ k, G k → B ≤ k ∧ ¬ K k) ∧ Below B w0 w ∧ B ≤ w0.heap.size ∧ ∀ k, K k → k < w.heap.size
section
variable {B l d : Nat} {w0 w w' : World} {x x2 : D} {y y2 : Lg} {E : Int} {K K' G F : Nat → Prop}
theorem LogW.post (hG : ∀ k, G k → B ≤ k ∧ ¬ K k) (hb : Below B w0 w) (hB : B ≤ w0.heap.size) (hK : ∀ k, K k → k < w.heap.size) (p : PostL G l d x2 y2 w w') : LogW B w0 l d x2 y2 K w' ∧ Same K w w' := by
  have hsz := hb.size
  have h2 := p.only.size
  refine ⟨⟨_, p.log, fun k hk => ?_, hb.trans (p.only.below (by omega) fun k hk => (hG k hk).1), hB, fun k hk => Nat.lt_of_lt_of_le (hK k hk) h2⟩, fun k hk => p.only.block k (hK k hk) fun hg => (hG k hg).2 hk⟩
  rcases hk with h | ⟨h, _⟩
  · exact hG k h
  · exact ⟨by omega, fun hk => by have := hK k hk; omega⟩
theorem HereW.post (hF : ∀ k, F k → B ≤ k ∧ ¬ K k) (hb : Below B w0 w) (hB : B ≤ w0.heap.size) (hK : ∀ k, K k → k < w.heap.size) (p : Post F d x2 w w') : HereW B w0 d x2 K w' ∧ Same K w w' := by
  have hsz := hb.size
  have h2 := p.only.size
  refine ⟨⟨_, p.disk, fun k hk => ?_, hb.trans (p.only.below (by omega) fun k hk => (hF k hk).1), hB, fun k hk => Nat.lt_of_lt_of_le (hK k hk) h2⟩, fun k hk => p.only.block k (hK k hk) fun hg => (hF k hg).2 hk⟩
  rcases hk with h | ⟨h, _⟩
  · exact hF k h
  · exact ⟨by omega, fun hk => by have := hK k hk; omega⟩
/-- The caller turns what is his own. -/
theorem LogW.move (h : LogW B w0 l d x y K w) (ho : Only K w w') (hB : ∀ k, K k → B ≤ k) (hK : ∀ k, K' k → (K k ∨ w.heap.size ≤ k) ∧ k < w'.heap.size) : LogW B w0 l d x y K' w' := by
  obtain ⟨G, hl, hG, hb, h0, hk⟩ := h
  have hsz := hb.size
  refine ⟨G, hl.other ho fun k hg hk => (hG k hg).2 hk, fun k hg => ⟨(hG k hg).1, fun hk' => ?_⟩, hb.trans (ho.below (by omega) hB), h0, fun k hk => (hK k hk).2⟩
  rcases (hK k hk').1 with h | h
  · exact (hG k hg).2 h
  · have := hl.lt hg; omega
theorem HereW.move (h : HereW B w0 d x K w) (ho : Only K w w') (hB : ∀ k, K k → B ≤ k) (hK : ∀ k, K' k → (K k ∨ w.heap.size ≤ k) ∧ k < w'.heap.size) : HereW B w0 d x K' w' := by
  obtain ⟨F, hl, hG, hb, h0, hk⟩ := h
  have hsz := hb.size
  refine ⟨F, hl.other ho fun k hg hk => (hG k hg).2 hk, fun k hg => ⟨(hG k hg).1, fun hk' => ?_⟩, hb.trans (ho.below (by omega) hB), h0, fun k hk => (hK k hk).2⟩
  rcases (hK k hk').1 with h | h
  · exact (hG k hg).2 h
  · have := hl.lt hg; omega
/-- Something new is laid. -/
theorem LogW.on (h : LogW B w0 l d x y K w) (hb : Below w.heap.size w w') : LogW B w0 l d x y K w' := by
  obtain ⟨G, hl, hG, hb0, h0, hk⟩ := h
  have hsz := hb0.size
  exact ⟨G, hl.below hb, hG, hb0.trans (hb.mono (by omega)), h0, fun k h => Nat.lt_of_lt_of_le (hk k h) hb.size⟩
theorem HereW.on (h : HereW B w0 d x K w) (hb : Below w.heap.size w w') : HereW B w0 d x K w' := by
  obtain ⟨G, hl, hG, hb0, h0, hk⟩ := h
  have hsz := hb0.size
  exact ⟨G, hl.below hb, hG, hb0.trans (hb.mono (by omega)), h0, fun k h => Nat.lt_of_lt_of_le (hk k h) hb.size⟩
/-- Other blocks are the caller's own from now on: new ones, or some of those. -/
theorem LogW.own (h : LogW B w0 l d x y K w) (hb : Below w.heap.size w w') (hK : ∀ k, K' k → (K k ∨ w.heap.size ≤ k) ∧ k < w'.heap.size) : LogW B w0 l d x y K' w' := by
  obtain ⟨G, hl, hG, hb0, h0, hk⟩ := h
  have hsz := hb0.size
  refine ⟨G, hl.below hb, fun k hg => ⟨(hG k hg).1, fun hk' => ?_⟩, hb0.trans (hb.mono (by omega)), h0, fun k hk => (hK k hk).2⟩
  rcases (hK k hk').1 with h | h
  · exact (hG k hg).2 h
  · have := hl.lt hg; omega
theorem Same.below (hK : ∀ k, K k → k < w.heap.size) (hb : Below w.heap.size w w') : Same K w w' := fun k hk => hb.block k (hK k hk)
theorem LogW.below (h : LogW B w0 l d x y K w) : Below B w0 w := by obtain ⟨G, hl, hG, hb0, h0, hk⟩ := h; exact hb0
theorem HereW.below (h : HereW B w0 d x K w) : Below B w0 w := by obtain ⟨G, hl, hG, hb0, h0, hk⟩ := h; exact hb0
theorem LogW.ok (h : LogW B w0 l d x y K w) : y.Ok x := by obtain ⟨G, hl, _⟩ := h; exact hl.ok
theorem LogW.xok (h : LogW B w0 l d x y K w) : x.Ok := by obtain ⟨G, hl, _⟩ := h; exact hl.xok
theorem LogW.lt (h : LogW B w0 l d x y K w) {k : Nat} (hk : K k) : k < w.heap.size := by obtain ⟨G, hl, hG, hb0, h0, h⟩ := h; exact h k hk
theorem HereW.lt (h : HereW B w0 d x K w) {k : Nat} (hk : K k) : k < w.heap.size := by obtain ⟨G, hl, hG, hb0, h0, h⟩ := h; exact h k hk
theorem LogW.disk (h : LogW B w0 l d x y K w) : HereW B w0 d x K w := by
  obtain ⟨G, ⟨F, v, hp, _⟩, hG, hb0, hB, hk⟩ := h
  exact ⟨F, hp.disk, fun k hk => hG k (hp.fG k hk), hb0, hB, hk⟩

theorem newW (n : Nat) (h1 : 1 ≤ n) (h2 : n ≤ 4194304) (w : World) (K : Nat → Prop) (hK : ∀ k, K k → k < w.heap.size) : Calls Try.prog 7 #[.int .i64 n] w fun e w' => e = .returned (.tuple #[ptr w.heap.size 0, .int .i64 0]) ∧ HereW w.heap.size w w.heap.size (D.fresh n) K w' :=
  (new_good n h1 h2 w).mono fun e w' ⟨he, hx, hb, _⟩ => ⟨he, _, hx, fun k hk => ⟨by rw [hk]; exact Nat.le_refl _, fun h => by have := hK k h; omega⟩, hb, Nat.le_refl _, fun k hk => Nat.lt_of_lt_of_le (hK k hk) hb.size⟩
theorem openW {f : Nat} (hs : Settled x) (hf : f < 16) (hx : HereW B w0 d x K w) : Calls Try.prog 8 #[ptr d 0, .int .i64 f] w fun e w' => ∃ l, e = .returned (.tuple #[ptr l 0, .int .i64 0]) ∧ LogW B w0 l d (openD x f) (openL x f) K w' ∧ Same K w w' := by
  obtain ⟨F, hd, hF, hb, hB, hK⟩ := hx
  refine (open_any hs hf hd).mono ?_
  rintro e w' ⟨l, he, hl, ho⟩
  have hsz := hb.size
  refine ⟨l, he, ⟨_, hl, fun k hk => ?_, hb.trans (ho.below (by omega) fun k hk => (hF k hk).1), hB, fun k hk => Nat.lt_of_lt_of_le (hK k hk) ho.size⟩, fun k hk => ho.block k (hK k hk) fun hg => (hF k hg).2 hk⟩
  rcases hk with hk | ⟨hk, _⟩
  · exact hF k hk
  · exact ⟨by omega, fun h => by have := hK k h; omega⟩
/-- Put of whatever kind and text. -/
def putR (x : D) (y : Lg) (k : Nat) (p : ByteArray) : Int × D × Lg := if h : 0 < k ∧ k < 256 ∧ p.size ≤ 65536 then putL x y ⟨(k, p), h.2⟩ else (2, x, y)
theorem putW {k : Nat} {p : ByteArray} (hk : k < 256) (hp : p.size ≤ 65536) (hs : putR x y k p = (E, x2, y2)) (h : LogW B w0 l d x y K w) (hlen : x.loose.length ≤ 1099511627776) :
    Calls Try.prog 11 #[ptr l 0, .int .u8 (k : Nat), .string p] w fun e w' => e = .returned (.int .i64 E) ∧ LogW B w0 l d x2 y2 K w' ∧ Same K w w' := by
  obtain ⟨G, hl, hG, hb, hB, hK⟩ := h
  unfold putR at hs
  by_cases h0 : 0 < k
  · rw [dif_pos ⟨h0, hk, hp⟩] at hs
    exact (put_any ⟨(k, p), hk, hp⟩ h0 hl hs hlen).mono fun e w' ⟨he, p⟩ => ⟨he, LogW.post hG hb hB hK p⟩
  · rw [dif_neg (fun h => h0 h.1)] at hs
    simp only [Prod.mk.injEq] at hs
    obtain ⟨rfl, rfl, rfl⟩ := hs
    obtain rfl : k = 0 := by omega
    exact (put_zero p (by omega) hl).mono fun e w' ⟨he, p⟩ => ⟨he, LogW.post hG hb hB hK p⟩
theorem syncW (hs : syncL x y = (E, x2, y2)) (h : LogW B w0 l d x y K w) : Calls Try.prog 15 #[ptr l 0] w fun e w' => e = .returned (.int .i64 E) ∧ LogW B w0 l d x2 y2 K w' ∧ Same K w w' := by
  obtain ⟨G, hl, hG, hb, hB, hK⟩ := h
  exact (sync_any hl hs).mono fun e w' ⟨he, p⟩ => ⟨he, LogW.post hG hb hB hK p⟩
theorem cutW {n : Int} (hs : cutL x y n = (E, x2, y2)) (h : LogW B w0 l d x y K w) (hlen : x.loose.length ≤ 1099511627776) : Calls Try.prog 12 #[ptr l 0, .int .i64 n] w fun e w' => e = .returned (.int .i64 E) ∧ LogW B w0 l d x2 y2 K w' ∧ Same K w w' := by
  obtain ⟨G, hl, hG, hb, hB, hK⟩ := h
  exact (cut_any n hl hs hlen).mono fun e w' ⟨he, p⟩ => ⟨he, LogW.post hG hb hB hK p⟩
theorem lenW {n : Nat} (hn : y.recs.length = n) (h : LogW B w0 l d x y K w) : Calls Try.prog 10 #[ptr l 0] w fun e w' => e = .returned (.int .i64 n) ∧ w = w' := by
  obtain ⟨G, ⟨F, v, hp, _⟩, _⟩ := h
  exact len_any hp.log hn
theorem sureW {n : Nat} (hn : y.sure = n) (h : LogW B w0 l d x y K w) : Calls Try.prog 13 #[ptr l 0] w fun e w' => e = .returned (.int .i64 n) ∧ w = w' := by
  obtain ⟨G, ⟨F, v, hp, _⟩, _⟩ := h
  exact sure_any hp.log hn
theorem atW {k : Nat} {r : Fr} (hr : y.recs[k]? = some r) (h : LogW B w0 l d x y K w) : Calls Try.prog 14 #[ptr l 0, .int .i64 k] w fun e w' => e = .returned (.tuple #[.int .u8 (r.1.1 : Nat), .string r.1.2, .int .i64 0]) ∧ Below w.heap.size w w' := by
  obtain ⟨G, ⟨F, v, hp, _⟩, _⟩ := h
  exact at_any hp.log hr
theorem power_now {n : Int} (h : x.power n = (E, x2)) : x2.now = x.now := by
  unfold D.power at h
  split at h
  · obtain ⟨rfl, rfl⟩ := Prod.mk.inj h; rfl
  split at h
  · obtain ⟨rfl, rfl⟩ := Prod.mk.inj h; rfl
  · obtain ⟨rfl, rfl⟩ := Prod.mk.inj h; rfl
theorem powerW {n : Int} (hs : x.power n = (E, x2)) (hn : n ≤ 9223372036854775807) (h : LogW B w0 l d x y K w) : Calls Try.prog 16 #[ptr d 0, .int .i64 n] w fun e w' => e = .returned (.int .i64 E) ∧ LogW B w0 l d x2 y K w' ∧ Same K w w' := by
  obtain ⟨G, ⟨F, v, hp, hok⟩, hG, hb, hB, hK⟩ := h
  refine (power_at hs hn w F d hp.disk).mono fun e w' ⟨he, p⟩ => ⟨he, LogW.post hG hb hB hK (hp.same p ⟨hok.file, ?_, hok.fine, hok.sure⟩)⟩
  rw [power_now hs]; exact hok.now
theorem crashW {n k : Int} (h1 : fitI n) (h2 : fitI k) (h : HereW B w0 d x K w) (hlen : x.loose.length ≤ 1099511627776) : Calls Try.prog 17 #[ptr d 0, .int .i64 n, .int .i64 k] w fun e w' => e = .returned (.tuple #[]) ∧ HereW B w0 d (x.crash n k) K w' ∧ Same K w w' := by
  obtain ⟨F, hd, hF, hb, hB, hK⟩ := h
  exact (crash_at n k h1.1 h1.2 h2.1 h2.2 w F d hd hlen).mono fun e w' ⟨he, p⟩ => ⟨he, HereW.post hF hb hB hK p⟩
end
end Go.Proofs.Ytbnnbaoimidfnaa.lg

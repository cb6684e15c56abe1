/- What strings.ContainsRune answers of the signs and a rune; what lex.begun makes. -/
import Derived.Test.YtffhmbiamkbchaaDoorLxC
import Derived.Test.YtffhmbiamkbchaaDoorCr
import Derived.WalkMore
namespace Go.Proofs.YtffhmbiamkbchaaDoor.lex
set_option linter.unusedSimpArgs false
set_option linter.unusedVariables false
open Go.RowKit nam

def signs : ByteArray := ⟨#[43, 45, 42, 47, 37, 40, 41, 38, 124, 33, 61, 60]⟩
theorem indexByte_far : ∀ (l : List UInt8) (c : UInt8), (∀ x ∈ l, x.toNat < 128) → 128 ≤ c.toNat → Lib.indexByte l c = -1
  | [], _, _, _ => rfl
  | b :: l, c, h, hc => by
    have h1 := indexByte_far l c (fun x hx => h x (List.mem_cons_of_mem _ hx)) hc
    have h2 : (b == c) = false := by
      rw [beq_eq_false_iff_ne]
      intro e
      have := h b List.mem_cons_self
      rw [e] at this
      omega
    unfold Lib.indexByte
    rw [h2, h1]
    rfl
theorem signs_ascii : ∀ x ∈ signs.data.toList, x.toNat < 128 := by decide
theorem signs_all : ((List.range 128).all fun r => decide (decide (0 ≤ Lib.indexByte signs.data.toList (r : Int).toNat.toUInt8) = sgnB r)) = true := by kernel_rfl
theorem signs_at {r : Nat} (h : r < 128) : decide (0 ≤ Lib.indexByte signs.data.toList (r : Int).toNat.toUInt8) = sgnB r := by
  have := List.all_eq_true.1 signs_all r (List.mem_range.2 h)
  simpa using this
theorem sgnB_far {r : Nat} (h : 128 ≤ r) : sgnB r = false := by
  unfold sgnB
  simp
  omega

section
variable {Q : Exit → Act → World → Prop} {K : Act → World → Prop} {a : Act} {w : World} {id : Nat}
theorem inBlock_ret : Exit.inBlock id Q .ret a w = Q .ret a w := rfl
theorem then_ret : Exit.then K Q .ret a w = Q .ret a w := rfl
theorem noGoto_ret : Exit.noGoto Q .ret a w = Q .ret a w := rfl
end
set_option maxHeartbeats 2000000 in
set_option maxRecDepth 1000000 in
/-- A rune of two bytes is none of an ASCII text. -/
theorem index_two {s : ByteArray} {r : Nat} (h1 : 128 ≤ r) (h2 : r < 192) (hs : ∀ x ∈ s.data.toList, x.toNat < 128) (h3 : 2 ≤ s.size) (h4 : s.size ≤ 1000) (w : World) :
    Calls Tryd.prog 82 #[.string s, .int .i32 r] w fun e w' => e = .returned (.int .i64 (-1)) ∧ Below w.heap.size w w' := by
  have hv : Lib.validRune (r : Int) = true := by unfold Lib.validRune; simp; omega
  obtain ⟨X, hX⟩ : ∃ X, Utf8.encode (r : Int) = X := ⟨_, rfl⟩
  have hXe : X = ⟨#[UInt8.ofNat (192 + r / 64), UInt8.ofNat (128 + r % 64)]⟩ := by
    rw [← hX, encode_enc r (by unfold okR; omega)]
    unfold enc
    rw [if_neg (by omega), if_pos (by omega)]
  have hXs : X.size = 2 := by rw [hXe]; rfl
  have hlt : 1 < X.size := by omega
  have hlt2 : 1 < s.size := by omega
  have hb : 128 ≤ (X[1]'hlt).toNat := by
    have : X[1]'hlt = UInt8.ofNat (128 + r % 64) := by subst hXe; rfl
    rw [this, toNat_ofNat _ (by omega)]
    omega
  have hi : ∀ (n : Nat) (c : Int), 128 ≤ c → c < 256 → Lib.indexByte (s.extract n s.size).data.toList c.toNat.toUInt8 = -1 := fun n c hc hc2 => by
    refine indexByte_far _ _ (fun x hx => ?_) ?_
    · rw [extract_toList] at hx
      exact hs x (List.mem_of_mem_take (List.mem_of_mem_drop hx))
    · show 128 ≤ (UInt8.ofNat c.toNat).toNat
      rw [toNat_ofNat _ (by omega)]
      omega
  have h0 : (s[1]'hlt2).toNat < 128 := hs _ (by rw [ByteArray.getElem_eq_getElem_data, ← Array.getElem_toList]; exact List.getElem_mem _)
  have HI := Lib.hid hi
  have hne : (((s[1]'hlt2).toNat : Int) != ((X[1]'hlt).toNat : Int)) = true := by
    rw [bne_iff_ne]; omega
  have n1 : ((r : Int) == 65533) = false := by simp; omega
  clear hi hXe
  go_enter Tryd.func82, Tryd.ntmps82
  go_wp2_with fail
  refine (Tryd.utf8_ValidRune _ _).mono ?_
  rintro e w1 ⟨rfl, rfl⟩
  go_wp2_with fail
  go_step3
  go_wp2_with fail
  go_outline
  go_loop [9, 10] (fun i f => i = .int .i64 1 ∧ f = .int .i64 0) (fun _ _ => 0)
  case atStart => exact ⟨rfl, rfl⟩
  case round =>
    obtain ⟨rfl, rfl⟩ := hrel
    go_wp2_with fail
    go_step3
    go_wp2_with fail
    go_outline
    go_quiet (fail)
    go_wp2_with fail
    have HG : Hid (Below w1.heap.size w1 (w1.drewN nq)) := ⟨rfl, rfl, rfl, Nat.le_refl _, fun _ _ => rfl⟩
    generalize w1.drewN nq = w2 at HG ⊢
    have hw1 : IntKind.i64.wrap ((1 : Int) + 1) = 2 := rfl
    go_quiet ((go_at_call 93; exact Calls.quiet_of_same (Tryd.strings_IndexByte _ _ _)))
    have hix : Lib.indexByte (s.extract 2 s.size).data.toList ((X[1]'hlt).toNat : Int).toNat.toUInt8 = -1 := HI.out 2 _ (by omega) (by have := (X[1]'hlt).toNat_lt; omega)
    rw [hix]
    clear hix
    go_wp2_with fail
    rw [Exit.noGoto_ret]
    simp (config := { zetaDelta := true }) only [inBlock_ret, then_ret, noGoto_ret]
    go_ret
    exact ⟨rfl, ⟨HG.out.os, HG.out.tape, HG.out.output, HG.out.size, HG.out.block⟩⟩

set_option maxHeartbeats 2000000 in
set_option maxRecDepth 1000000 in
/-- U+FFFD is none of an ASCII text. -/
theorem index_err {s : ByteArray} (hs : ∀ x ∈ s.data.toList, x.toNat < 128) (h4 : s.size ≤ 1000) (w : World) :
    Calls Tryd.prog 82 #[.string s, .int .i32 (65533 : Nat)] w fun e w' => e = .returned (.int .i64 (-1)) ∧ Below w.heap.size w w' := by
  go_enter Tryd.func82, Tryd.ntmps82
  go_wp2_with fail
  go_loopw [5] (fun _ wr => ∃ pos : Nat, wr = w.iter s pos) (fun _ wr => s.size - wr.iterPos w.heap.size)
  case atStart => exact ⟨0, rfl⟩
  case round =>
    obtain ⟨pos, rfl⟩ := hrel
    by_cases hp : pos < s.size
    · have hnx : ∀ ty, (Instr.next (.pointer (some ⟨w.heap.size, 0, none⟩)) true ty).run Tryd.prog (w.iter s pos) = _ := fun ty => run_next_any w s pos ty hp
      have hwd := width_pos s pos hp
      have h0 : (s[pos]'hp).toNat < 128 := hs _ (by rw [ByteArray.getElem_eq_getElem_data, ← Array.getElem_toList]; exact List.getElem_mem _)
      have hd : (Utf8.decode s pos).1 = (s[pos]'hp).toNat := by rw [decode_ascii s pos hp h0]
      have hne : (((Utf8.decode s pos).1 : Int) == 65533) = false := by rw [hd]; simp; omega
      clear hd
      go_wp2_with fail
      go_roundw
      case rel => exact ⟨pos + (Utf8.decode s pos).2, rfl⟩
      case measure => simp; omega
    · have hnx : ∀ ty, (Instr.next (.pointer (some ⟨w.heap.size, 0, none⟩)) true ty).run Tryd.prog (w.iter s pos) = _ := fun ty => run_next_end w s pos ty hp
      go_wp2_with fail
      try rw [Exit.noGoto_ret]
      go_ret
      exact ⟨rfl, below_iter w s pos⟩
end Go.Proofs.YtffhmbiamkbchaaDoor.lex

/- What changelingref02.Put answers of a row. -/
import Derived.Test.YtghpbhcnblninaaByE
namespace Go.Proofs.Ytghpbhcnblninaa.byt
open Go.RowKit

def RefPutRel (l : List Int) (w wr : World) (v3 v4 : Value) (g : Nat) : Prop :=
  ∃ k : Nat, k + g = l.length ∧ v4 = .int .i64 k ∧ v3 = .string (txt (flat (l.take k))) ∧ Below w.heap.size w wr

set_option maxHeartbeats 800000 in
set_option maxRecDepth 1000000 in
theorem refPut_any (l : List Int) (a : Option Addr) (cap : Nat) (w : World) (hr : Rd w w.heap.size a l) (hf : ∀ n ∈ l, fits n) (hl : l.length ≤ 1000000) :
    Calls Try.prog 51 #[.slice a l.length cap] w (PutPost l w) := by
  have HR := Lib.hid hr; have HF := Lib.hid hf
  clear hr hf
  go_enter Try.func51, Try.ntmps51
  go_wp2
  go_loopg [3, 4] l.length (fun g v3 v4 wr => RefPutRel l w wr v3 v4 g)
  case atStart => exact ⟨0, by omega, rfl, rfl, Below.refl _ _⟩
  case round =>
    obtain ⟨k, hkg, rfl, rfl, hb⟩ := hrel
    have HB := Lib.hid hb
    clear hb
    cases gk with
    | zero =>
      have hkz : ¬ ((k : Int) < (l.length : Int)) := by omega
      obtain ⟨t, et⟩ : ∃ t, txt (flat (l.take k)) = t := ⟨_, rfl⟩
      rw [et]
      rw [show k = l.length by omega, List.take_length] at et
      have ET := Lib.hid et; clear et
      go_wp2
      go_ret
      exact ⟨by rw [ET.out]; rfl, HB.out⟩
    | succ g =>
      have hkz : (k : Int) < (l.length : Int) := by omega
      obtain ⟨b, o, rfl, hlt, hc⟩ := HR.out (by intro e; rw [e] at hkz; simp at hkz; omega)
      have hck := (HB.out.cell (p := ⟨b, o + k, none⟩) hlt).trans (hc k (by omega))
      have hfk : fits (l.getD k 0) := HF.out _ (by rw [List.getD_eq_getElem?_getD, List.getElem?_eq_getElem (by omega)]; simp)
      obtain ⟨x, ex⟩ : ∃ x, l.getD k 0 = x := ⟨_, rfl⟩
      have HT := Lib.hid (take_more (by omega) ex)
      rw [ex] at hck hfk
      clear hc ex
      have h1 : (txt (flat (l.take k))).size ≤ 10000000 := by
        have := take_size' HF.out k
        rw [txt_size]; omega
      have h2 : (txt (sev (tf x))).size ≤ 10 := by rw [txt_size]; exact sev_ten (tf_lt hfk.1 hfk.2)
      go_wp2_with (go_at_call 67; ((with_reducible refine (one_any _ _ hfk).mono ?_); rintro e w2 ⟨rfl, hb2⟩))
      go_roundg g
      case measure => omega
      case rel => exact ⟨k + 1, by omega, by go_num, by rw [HT.out, txt_append], below_on' HB.out hb2⟩
end Go.Proofs.Ytghpbhcnblninaa.byt

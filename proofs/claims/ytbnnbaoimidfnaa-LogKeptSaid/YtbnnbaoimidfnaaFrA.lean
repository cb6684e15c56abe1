/- What frame.sumOf answer. -/
import Derived.Test.YtbnnbaoimidfnaaFrP
import Derived.Test.YtbnnbaoimidfnaaSmC
import Derived.Deep.OwnRows
namespace Go.Proofs.Ytbnnbaoimidfnaa.frm
open Go.RowKit byt

theorem nums_four (n : Nat) (h : n < 4294967296) : strOfNums [(n : Int) % 256, (n : Int) / 256 % 256, (n : Int) / 65536 % 256, (n : Int) / 16777216] = txt (tailL n) := by
  have e1 : ((n : Int) % 256).toNat = n % 256 := by omega
  have e2 : ((n : Int) / 256 % 256).toNat = n / 256 % 256 := by omega
  have e3 : ((n : Int) / 65536 % 256).toNat = n / 65536 % 256 := by omega
  have e4 : ((n : Int) / 16777216).toNat = n / 16777216 := by omega
  have f : ∀ m : Nat, UInt8.ofNat (m % 256) = UInt8.ofNat m := fun m => UInt8.toNat_inj.1 (by simp [UInt8.toNat_ofNat'])
  unfold strOfNums txt tailL
  simp only [List.map_cons, List.map_nil, e1, e2, e3, e4, f]
/-- A sum's bytes in a slice, as a text. -/
theorem four_string {w : World} {b cap : Nat} (n : Nat) (h : n < 4294967296) (h0 : w.cell? ⟨b, 0, none⟩ = some (.int .u8 ((n : Int) % 256))) (h1 : w.cell? ⟨b, 1, none⟩ = some (.int .u8 ((n : Int) / 256 % 256)))
    (h2 : w.cell? ⟨b, 2, none⟩ = some (.int .u8 ((n : Int) / 65536 % 256))) (h3 : w.cell? ⟨b, 3, none⟩ = some (.int .u8 ((n : Int) / 16777216))) :
    (convert 44 9 (.slice (some ⟨b, 0, none⟩) 4 cap)).run Try.prog w = .ok (.string (txt (tailL n))) w := by
  rw [← nums_four n h]
  refine run_convert_bytes_arg (P := Try.prog) w 44 5 Try.underlying44 Try.underlying5 b 0 4 cap _ rfl (fun i hi => ?_) 9 Try.underlying9
  rw [Nat.zero_add]
  match i, hi with
  | 0, _ => exact h0
  | 1, _ => exact h1
  | 2, _ => exact h2
  | 3, _ => exact h3
theorem of_one_at {x : ByteArray} {n : Nat} (h : sum.sm (bl x) = n) (w : World) (hx : x.size ≤ 9223372036854775807) :
    Calls Try.prog 41 #[.slice (some ⟨w.heap.size, 0, none⟩) 1 1] (w.alloc (.cells #[.string x] 9)) fun e w' => e = .returned (.int .u32 n) ∧ Below w.heap.size w w' := by
  have := sum.of_one x w hx
  rwa [show sum.sm (sum.bl x) = n from h] at this
theorem of_one_on {x : ByteArray} {n : Nat} (h : sum.sm (bl x) = n) (w : World) (o : Obj) (hx : x.size ≤ 9223372036854775807) :
    Calls Try.prog 41 #[.slice (some ⟨w.heap.size + 1, 0, none⟩) 1 1] ((w.alloc o).alloc (.cells #[.string x] 9)) fun e w' => e = .returned (.int .u32 n) ∧ Below (w.heap.size + 1) (w.alloc o) w' := by
  have := of_one_at h (w.alloc o) hx
  rwa [World.size_alloc] at this
/-- The first k bytes of a sum are laid. -/
def laid (n k : Nat) (j : Nat) : Value := if k ≤ j then .int .u8 0 else match j with
  | 0 => .int .u8 ((n : Int) % 256)
  | 1 => .int .u8 ((n : Int) / 256 % 256)
  | 2 => .int .u8 ((n : Int) / 65536 % 256)
  | _ => .int .u8 ((n : Int) / 16777216)
theorem laid_set {n k b : Nat} {w : World} {v : Value} (hk : k < 4) (h : w.rowIs b 81 4 (laid n k)) (hv : v = laid n 4 k) : (w.setCell ⟨b, k, none⟩ v).rowIs b 81 4 (laid n (k + 1)) := by
  refine (h.set k v).congr fun i hi => ?_
  by_cases e : i = k
  · subst e
    simp only [if_true, hv, laid]
    rw [if_neg (by omega), if_neg (by omega)]
  · simp only [if_neg e, laid]
    by_cases h2 : k ≤ i
    · rw [if_pos h2, if_pos (by omega)]
    · rw [if_neg h2, if_neg (by omega)]
def ArrRel (n : Nat) (w wr : World) (v9 : Value) (g : Nat) : Prop :=
  ∃ k : Nat, k + g = 4 ∧ v9 = .int .i64 k ∧ wr.rowIs w.heap.size 81 4 (laid n k) ∧ Below w.heap.size w wr

set_option maxHeartbeats 1600000 in
set_option maxRecDepth 1000000 in
theorem sumOf_any (s : ByteArray) (w : World) (hs : s.size ≤ 9223372036854775807) : Calls Try.prog 32 #[.string s] w fun e w' => e = .returned (.string (tl s)) ∧ Below w.heap.size w w' := by
  obtain ⟨n, en⟩ : ∃ n, sum.sm (bl s) = n := ⟨_, rfl⟩
  have hn : n < 4294967296 := by rw [← en]; exact sum.sm_lt (bl s)
  have ET := Lib.hid (show tl s = txt (tailL n) by unfold tl; rw [en])
  have EN := Lib.hid en
  clear en
  go_enter Try.func32, Try.ntmps32
  go_wp2_with fail
  with_reducible refine (of_one_on EN.out w _ (by omega)).mono ?_
  rintro e w1 ⟨rfl, hb⟩
  have HB := Lib.hid hb; clear hb
  go_wp2_with fail
  go_loopg [9] 4 (fun g v9 wr => ArrRel n w wr v9 g)
  case atStart =>
    refine ⟨0, rfl, rfl, ?_, (((Below.refl _ w).alloc (Nat.le_refl _) _).trans (HB.out.mono (Nat.le_succ _)))⟩
    refine World.rowIs.of_block (w := w.alloc (.cells #[.int .u8 0, .int .u8 0, .int .u8 0, .int .u8 0] 81)) (World.rowIs_alloc w #[.int .u8 0, .int .u8 0, .int .u8 0, .int .u8 0] 81 _ (fun i hi => ?_)) (HB.out.block _ (Nat.lt_succ_self _))
    match i, hi with
    | 0, _ => rfl
    | 1, _ => rfl
    | 2, _ => rfl
    | 3, _ => rfl
  case round =>
    obtain ⟨k, hkg, rfl, hrow, hb⟩ := hrel
    have HB := Lib.hid hb; clear hb
    rcases Nat.lt_or_ge k 4 with hk | hk
    · have hfz := hrow.frozen k
      have hce := hrow.cell hk
      have HS := Lib.hid (fun v (hv : v = laid n 4 k) => laid_set hk hrow hv)
      match k, hk with
      | 0, hk =>
        have hc0 : wr.cell? ⟨w.heap.size, 0, none⟩ = some (.int .u8 0) := hce
        have HR := Lib.hid hrow; clear hrow hce
        go_wp2
        go_roundg 3
        case measure => omega
        case rel => exact ⟨1, rfl, rfl, HS.out _ rfl, HB.out.setCell (p := ⟨w.heap.size, 0, none⟩) (Nat.le_refl _) _⟩
      | 1, hk =>
        have hc0 : wr.cell? ⟨w.heap.size, 1, none⟩ = some (.int .u8 0) := hce
        have HR := Lib.hid hrow; clear hrow hce
        go_wp2
        go_roundg 2
        case measure => omega
        case rel => exact ⟨2, rfl, rfl, HS.out _ rfl, HB.out.setCell (p := ⟨w.heap.size, 1, none⟩) (Nat.le_refl _) _⟩
      | 2, hk =>
        have hc0 : wr.cell? ⟨w.heap.size, 2, none⟩ = some (.int .u8 0) := hce
        have HR := Lib.hid hrow; clear hrow hce
        go_wp2
        go_roundg 1
        case measure => omega
        case rel => exact ⟨3, rfl, rfl, HS.out _ rfl, HB.out.setCell (p := ⟨w.heap.size, 2, none⟩) (Nat.le_refl _) _⟩
      | 3, hk =>
        have hc0 : wr.cell? ⟨w.heap.size, 3, none⟩ = some (.int .u8 0) := hce
        have HR := Lib.hid hrow; clear hrow hce
        go_wp2
        go_roundg 0
        case measure => omega
        case rel => exact ⟨4, rfl, rfl, HS.out _ rfl, HB.out.setCell (p := ⟨w.heap.size, 3, none⟩) (Nat.le_refl _) _⟩
    · obtain rfl : k = 4 := by omega
      have hcv := four_string (cap := 4) n hn (hrow.cell (i := 0) (by omega)) (hrow.cell (i := 1) (by omega)) (hrow.cell (i := 2) (by omega)) (hrow.cell (i := 3) (by omega))
      have HR := Lib.hid hrow; clear hrow
      go_wp2
      go_ret
      exact ⟨by rw [ET.out]; rfl, HB.out⟩
end Go.Proofs.Ytbnnbaoimidfnaa.frm

/- What bytes.Put answers: of every row of numbers that fit. -/
import Derived.Test.YtknldabnkaecdaaByB
import Derived.Lib.OthersKept
import Derived.OwnWalk
import Derived.Laws.BytesArg
namespace Go.Proofs.Ytknldabnkaecdaa.byt
open Go.RowKit

/-- A slice, nil or not, whose numbers are l, below block B. -/
def Rd (w : World) (B : Nat) (a : Option Addr) (l : List Int) : Prop :=
  l ≠ [] → ∃ b o, a = some ⟨b, o, none⟩ ∧ b < B ∧ ∀ j, j < l.length → w.cell? ⟨b, o + j, none⟩ = some (.int .i64 (l.getD j 0))
theorem Rd.below {w w' : World} {B : Nat} {a : Option Addr} {l : List Int} (h : Rd w B a l) (hb : Below B w w') : Rd w' B a l := fun hl => by
  obtain ⟨b, o, e, hlt, hc⟩ := h hl
  exact ⟨b, o, e, hlt, fun j hj => (hb.cell (p := ⟨b, o + j, none⟩) hlt).trans (hc j hj)⟩
theorem Rd.more {w : World} {B B' : Nat} {a : Option Addr} {l : List Int} (h : Rd w B a l) (hB : B ≤ B') : Rd w B' a l := fun hl => by
  obtain ⟨b, o, e, hlt, hc⟩ := h hl
  exact ⟨b, o, e, by omega, hc⟩
theorem Rd.on {w w' : World} {a : Option Addr} {l : List Int} (h : Rd w w.heap.size a l) (hb : Below w.heap.size w w') : Rd w' w'.heap.size a l := (h.below hb).more hb.size

def byteV (b : UInt8) : Value := .int .u8 b.toNat
/-- A row of bytes as a text. -/
def txt (l : List UInt8) : ByteArray := ⟨l.toArray⟩
theorem txt_bl (l : List UInt8) : bl (txt l) = l := rfl
theorem bl_txt (s : ByteArray) : txt (bl s) = s := rfl
theorem txt_size (l : List UInt8) : (txt l).size = l.length := by simp [txt, ByteArray.size]

theorem info5 : (Try.prog.info? 5).map (fun i => (i.zero, i.size, i.bytes)) = some (some (.int .u8 0), 1, 1) := by kernel_rfl

theorem own_below {W W' : World} {B e size n : Nat} {v : Value} {xs : List Value} (h : W.ownsRow B e size v n xs) (hb : Below W.heap.size W W') : W'.ownsRow B e size v n xs :=
  h.kept (row := none) ⟨hb.os, hb.tape, hb.output, hb.size, fun k hk _ => hb.block k hk⟩ (by cases hv : v.ownBlock <;> simp)
theorem cell_one_new (w : World) (x : Value) (t : TypeId) : ∀ j u, [x][j]? = some u → (w.alloc (.cells #[x] t)).cell? ((⟨w.heap.size, 0, none⟩ : Addr).add j) = some u := by
  intro j u hj
  match j, hj with
  | 0, hj => simp at hj; subst hj; simp [Addr.add]
  | (j + 1), hj => simp at hj

/-- How a slice that is owned is read. -/
theorem own_cases {w : World} {B e n : Nat} {v : Value} {xs : List Value} (h : w.ownsRow B e 1 v n xs) :
    (v = .slice none 0 0 ∧ n = 0) ∨ ∃ g cap, v = .slice (some ⟨g, 0, none⟩) n cap ∧ n ≤ cap ∧ cap ≤ maxLen ∧ B ≤ g ∧ g < w.heap.size ∧ ∀ j u, xs[j]? = some u → w.cell? ⟨g, j, none⟩ = some u := by
  rcases h.2 with h0 | ⟨g, cap, cur, rfl, hb, hg, h1, h2, h3, h4⟩
  · exact .inl h0
  · refine .inr ⟨g, cap, rfl, h1, h2, hb, (Array.getElem?_eq_some_iff.1 hg).1, fun j u hj => ?_⟩
    have := h.cells (g := g) rfl j u hj
    have hadd : (⟨g, 0, none⟩ : Addr).add j = ⟨g, j, none⟩ := by unfold Addr.add; split <;> simp_all
    rwa [hadd] at this
theorem nums_txt (l : List UInt8) : strOfNums (l.map fun b => (b.toNat : Int)) = txt l := by
  unfold strOfNums txt
  congr 2
  rw [List.map_map]
  conv => rhs; rw [← List.map_id l]
  exact List.map_congr_left fun b _ => by simp
/-- The bytes that are owned, as a text. -/
theorem own_string {w : World} {B : Nat} {v : Value} {l : List UInt8} (h : w.ownsRow B 5 1 v l.length (l.map byteV)) : (convert 64 9 v).run Try.prog w = .ok (.string (txt l)) w := by
  rcases own_cases h with ⟨rfl, h0⟩ | ⟨g, cap, rfl, _, _, _, _, hc⟩
  · obtain rfl := List.eq_nil_of_length_eq_zero h0
    exact run_convert_bytes_nil w 64 5 Try.underlying64 Try.underlying5 0 0 9 Try.underlying9
  · rw [← nums_txt]
    refine run_convert_bytes_arg w 64 5 Try.underlying64 Try.underlying5 g 0 _ cap _ (by simp) (fun i hi => ?_) 9 Try.underlying9
    rw [Nat.zero_add]
    refine hc i _ ?_
    rw [List.getElem?_map, List.getElem?_eq_getElem hi, List.getD_eq_getElem?_getD, List.getElem?_map, List.getElem?_eq_getElem hi]
    rfl

/-- The inner loop's relation: what is done, and what is left, are the bytes so far and the number's. -/
def PutIn (l : List Int) (k : Nat) (w wr : World) (v3 v6 : Value) (g : Nat) : Prop :=
  ∃ (done : List UInt8) (U : Nat), v6 = .int .u64 U ∧ U < 18446744073709551616 ∧ done ++ sev U = flat (l.take (k + 1)) ∧ U ≤ g ∧ wr.ownsRow w.heap.size 5 1 v3 done.length (done.map byteV) ∧ Below w.heap.size w wr
def PutOut (l : List Int) (w wr : World) (v3 v12 : Value) (g : Nat) : Prop :=
  ∃ k : Nat, k + g = l.length ∧ v12 = .int .i64 k ∧ wr.ownsRow w.heap.size 5 1 v3 (flat (l.take k)).length ((flat (l.take k)).map byteV) ∧ Below w.heap.size w wr

def PutPost (l : List Int) (w : World) (e : Ending) (w' : World) : Prop := e = .returned (.string (txt (flat l))) ∧ Below w.heap.size w w'

set_option maxRecDepth 100000 in
theorem or_high (U : Nat) : bits .or .u8 ((U : Int) % 256) 128 = ((U % 128 + 128 : Nat) : Int) := by
  have e : (U : Int) % 256 = ((U % 256 : Nat) : Int) := by omega
  rw [e]
  have h := (bits_nat .u8 8 (by decide) wraps_u8 (U % 256) 128 (by omega) (by omega)).2
  have hm : ∀ m : Fin 256, m.val ||| 128 = m.val % 128 + 128 := by decide
  have h2 := hm ⟨U % 256, by omega⟩
  simp only at h2
  have h3 : U % 256 % 128 = U % 128 := by omega
  rw [h2, h3] at h
  exact h
theorem take_more {l : List Int} {k : Nat} {x : Int} (hk : k < l.length) (hx : l.getD k 0 = x) : flat (l.take (k + 1)) = flat (l.take k) ++ sev (tf x) := by
  have h : l[k]? = some x := by
    rw [List.getD_eq_getElem?_getD, List.getElem?_eq_getElem hk] at hx
    rw [List.getElem?_eq_getElem hk]
    simpa using hx
  rw [List.take_add_one, h]
  exact flat_snoc _ _
theorem take_size' {l : List Int} (hf : ∀ n ∈ l, fits n) (k : Nat) : (flat (l.take k)).length ≤ 10 * l.length := by
  have h := flat_size (l.take k) (fun n hn => hf n (List.mem_of_mem_take hn))
  have h2 := List.length_take_le k l
  have h3 : (l.take k).length ≤ l.length := by rw [List.length_take]; omega
  omega
/-- A number's last byte is put. -/
theorem put_last {l : List Int} {k g U : Nat} {w wr w2 : World} {done : List UInt8} {v4 : Value} (hg : k + (g + 1) = l.length) (hU : U < 128) (hd : done ++ sev U = flat (l.take (k + 1)))
    (hb : Below w.heap.size w wr) {o : Obj} {r : Option Nat} (hr : ∀ j, r = some j → w.heap.size ≤ j) (k4 : w2.ownsRow w.heap.size 5 1 v4 (done.length + 1) (done.map byteV ++ [.int .u8 (U : Int)])) (g4 : (wr.alloc o).grownBy w2 r) {v12 : Value} (hv : v12 = .int .i64 (k + 1 : Nat)) :
    PutOut l w w2 v4 v12 g := by
  rw [sev_small hU] at hd
  refine ⟨k + 1, by omega, hv, ?_, (hb.alloc hb.size _).grown g4 (by rw [World.size_alloc]; have := hb.size; omega) hr⟩
  rw [← hd]
  have e : byteV (UInt8.ofNat U) = .int .u8 (U : Int) := by unfold byteV; rw [ofNat_toNat (by omega)]
  simpa [e] using k4
/-- Another byte of it is put. -/
theorem put_on {l : List Int} {k g U : Nat} {w wr w2 : World} {done : List UInt8} {v4 : Value} (hU : ¬ U < 128) (hU2 : U < 18446744073709551616) (hd : done ++ sev U = flat (l.take (k + 1)))
    (hb : Below w.heap.size w wr) {o : Obj} {r : Option Nat} (hr : ∀ j, r = some j → w.heap.size ≤ j) (k4 : w2.ownsRow w.heap.size 5 1 v4 (done.length + 1) (done.map byteV ++ [.int .u8 ((U % 128 + 128 : Nat) : Int)])) (g4 : (wr.alloc o).grownBy w2 r) {v6 : Value} (hv : v6 = .int .u64 (U / 128 : Nat)) (hg : U / 128 ≤ g) :
    PutIn l k w w2 v4 v6 g := by
  rw [sev_big hU] at hd
  refine ⟨done ++ [UInt8.ofNat (U % 128 + 128)], U / 128, hv, by omega, by rw [← hd, List.append_assoc]; rfl, hg, ?_, (hb.alloc hb.size _).grown g4 (by rw [World.size_alloc]; have := hb.size; omega) hr⟩
  have e : byteV (UInt8.ofNat (U % 128 + 128)) = .int .u8 ((U % 128 + 128 : Nat) : Int) := by unfold byteV; rw [ofNat_toNat (by omega)]
  rw [List.length_append, List.map_append, List.map_cons, List.map_nil, e]
  exact k4

set_option maxHeartbeats 1600000 in
set_option maxRecDepth 1000000 in
theorem put_any (l : List Int) (a : Option Addr) (cap : Nat) (w : World) (hr : Rd w w.heap.size a l) (hf : ∀ n ∈ l, fits n) (hl : l.length ≤ 1000000) :
    Calls Try.prog 28 #[.slice a l.length cap] w (PutPost l w) := by
  obtain ⟨i0, hi, hz0, hz1, hz2⟩ := info_parts info5
  obtain ⟨w1, hmk, hown0, hg0⟩ := run_make_own (P := Try.prog) (w := w) w.heap.size 64 5 i0 (.int .u8 0) 1 Try.underlying64 hi hz0 hz1 .i64 .i64 l.length (by rw [hz2]; omega) (by unfold maxLen; omega) (Nat.le_refl _)
  have HR := Lib.hid hr; have HF := Lib.hid hf
  clear hr hf
  go_enter Try.func28, Try.ntmps28
  go_wp2
  go_step3
  go_wp2
  go_step3
  go_wp2
  clear hmk
  go_loopg [3, 12] l.length (fun g v3 v12 wr => PutOut l w wr v3 v12 g)
  case atStart => exact ⟨0, by omega, rfl, hown0, (Below.refl _ _).grown hg0 (Nat.le_refl _) (by simp)⟩
  case round =>
    obtain ⟨k, hkg, rfl, hown, hb⟩ := hrel
    have HO := Lib.hid hown; have HB := Lib.hid hb
    clear hown hb
    cases gk with
    | zero =>
      have hkz : ¬ ((k : Int) < (l.length : Int)) := by omega
      have hcv := own_string HO.out
      rw [show k = l.length by omega, List.take_length] at hcv
      go_wp2
      try rw [Exit.noGoto_ret]
      go_ret
      exact ⟨rfl, HB.out⟩
    | succ g =>
      have hkz : (k : Int) < (l.length : Int) := by omega
      obtain ⟨b, o, rfl, hlt, hc⟩ := HR.out (by intro e; rw [e] at hkz; simp at hkz; omega)
      have hck := (HB.out.cell (p := ⟨b, o + k, none⟩) hlt).trans (hc k (by omega))
      have hfk : fits (l.getD k 0) := HF.out _ (by rw [List.getD_eq_getElem?_getD, List.getElem?_eq_getElem (by omega)]; simp)
      obtain ⟨x, ex⟩ : ∃ x, l.getD k 0 = x := ⟨_, rfl⟩
      rw [ex] at hck hfk
      have EX := Lib.hid ex
      clear hc ex
      go_wp2_with (go_at_call 34; ((with_reducible refine (turned_any _ _ hfk).mono ?_); rintro e w' ⟨rfl, rfl⟩))
      obtain ⟨wo, rfl⟩ : ∃ wo : World, wo = wr := ⟨_, rfl⟩
      go_loopg [3, 6] (tf x) (fun g2 v3 v6 wr => PutIn l k w wr v3 v6 g2)
      case atStart => exact ⟨flat (l.take k), tf x, rfl, tf_lt hfk.1 hfk.2, (take_more (by omega) EX.out).symm, Nat.le_refl _, HO.out, HB.out⟩
      case round =>
        obtain ⟨done, U, rfl, hU, hd, hUg, hown, hb⟩ := hrel
        have hlen : done.length ≤ 10000000 := by
          have h1 := take_size' HF.out (k + 1)
          rw [← hd, List.length_append] at h1
          omega
        have HSZ : Hid (∀ o, w.heap.size ≤ (wr.alloc o).heap.size) := Lib.hid (fun o => by rw [World.size_alloc]; have := hb.size; omega)
        have HL := Lib.hid (fun j hj => (hown.lt j hj).1)
        have HD := Lib.hid hd; have HO2 := Lib.hid hown; have HB2 := Lib.hid hb
        clear hd hown hb
        have hor := or_high U
        obtain ⟨V, eV⟩ : ∃ V, U % 128 + 128 = V := ⟨_, rfl⟩
        rw [eV] at hor
        have EV := Lib.hid eV
        clear eV
        by_cases hs : U < 128
        · have hs' : (U : Int) < 128 := by omega
          go_wp2_with (at_builtin; refine wpList_append_own _ rfl (.tmp 22) (.tmp 25) 64 rfl w.heap.size 5 i0 (.int .u8 0) 1 1 Try.underlying64 hi hz0 hz1 hz2 rfl (by decide) _ _ _ rfl (HO2.out.alloc _) ⟨_, 0, none⟩ 1 1 [.int .u8 (U : Int)] rfl rfl (cell_one_new _ _ _) (by simp [Value.oneCell']) (by unfold maxLen; omega) (by omega) (HSZ.out _) ?_)
          intro v4 w2 k4 g4 _
          have HR2 := Lib.hid (fun (v12 : Value) (hv : v12 = .int .i64 (k + 1 : Nat)) => put_last (g := g) (by omega) hs HD.out HB2.out HL.out k4 g4 hv)
          clear k4 g4
          go_wp2
          go_roundg g
          case measure => omega
          case rel => exact HR2.out _ (by go_num)
        · have hs' : (128 : Int) ≤ (U : Int) := by omega
          go_wp2_with (at_builtin; refine wpList_append_own _ rfl (.tmp 27) (.tmp 31) 64 rfl w.heap.size 5 i0 (.int .u8 0) 1 1 Try.underlying64 hi hz0 hz1 hz2 rfl (by decide) _ _ _ rfl (HO2.out.alloc _) ⟨_, 0, none⟩ 1 1 [.int .u8 (V : Int)] rfl rfl (cell_one_new _ _ _) (by simp [Value.oneCell']) (by unfold maxLen; omega) (by omega) (HSZ.out _) ?_)
          intro v4 w2 k4 g4 _
          rw [← EV.out] at k4
          have HR2 := Lib.hid (fun (v6 : Value) (hv : v6 = .int .u64 (U / 128 : Nat)) => put_on (g := U / 128) hs hU HD.out HB2.out HL.out k4 g4 hv (Nat.le_refl _))
          clear k4 g4
          go_wp2
          go_roundg (U / 128)
          case measure => omega
          case rel => exact HR2.out _ (by go_num)
end Go.Proofs.Ytknldabnkaecdaa.byt

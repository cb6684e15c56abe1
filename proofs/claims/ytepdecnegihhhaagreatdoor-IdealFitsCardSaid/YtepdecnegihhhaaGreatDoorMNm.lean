/- Plain facts on the runes of a text: no program's run in this .. -/
import Derived.Laws.RangeAny
import Derived.Lib.Hide
import Derived.Lib.DecodeN
import Derived.Test.YtepdecnegihhhaaGreatDoorRows
import Derived.WalkKit
import Derived.BigQuiet
import Derived.Handy
import Derived.Lib.OthersKept
set_option linter.unusedSimpArgs false
set_option linter.unusedVariables false
namespace Go.Proofs.YtepdecnegihhhaaGreatDoor.nam
section
def letB (n : Nat) : Bool := decide (97 ≤ n ∧ n ≤ 122 ∨ 65 ≤ n ∧ n ≤ 90 ∨ 191 < n ∧ n ≠ 65533)
def digB (n : Nat) : Bool := decide (48 ≤ n ∧ n ≤ 57)
def blkB (n : Nat) : Bool := decide (n = 32 ∨ n = 9)
def mayB (n : Nat) : Bool := decide (n ≠ 65533 ∧ (32 ≤ n ∨ n = 9))
theorem width_pos (s : ByteArray) (pos : Nat) (h : pos < s.size) : 1 ≤ (Utf8.decode s pos).2 := by
 by_cases ha : (s[pos]'h).toNat < 128
 · rw [decode_ascii s pos h ha]
   exact Nat.le_refl _
 · exact (decode_high s pos h (by omega)).2
def runesFrom (s : ByteArray) : Nat → Nat → List (Nat × Nat)
 | 0, _ => []
 | f + 1, pos => if pos < s.size then (pos, (Utf8.decode s pos).1) :: runesFrom s f (pos + (Utf8.decode s pos).2) else []
theorem runesFrom_fuel (s : ByteArray) : ∀ (f g pos : Nat), s.size ≤ pos + f → s.size ≤ pos + g → runesFrom s f pos = runesFrom s g pos
 | 0, 0, _, _, _ => rfl
 | 0, g + 1, pos, h, _ => by simp only [runesFrom]; rw [if_neg (by omega)]
 | f + 1, 0, pos, _, h => by simp only [runesFrom]; rw [if_neg (by omega)]
 | f + 1, g + 1, pos, h1, h2 => by
  simp only [runesFrom]
  by_cases hp : pos < s.size
  · have hw := width_pos s pos hp
    rw [if_pos hp, if_pos hp, runesFrom_fuel s f g _ (by omega) (by omega)]
  · rw [if_neg hp, if_neg hp]
def runesAt (s : ByteArray) (pos : Nat) : List (Nat × Nat) := runesFrom s s.size pos
theorem runesAt_step (s : ByteArray) (pos : Nat) (h : pos < s.size) : runesAt s pos = (pos, (Utf8.decode s pos).1) :: runesAt s (pos + (Utf8.decode s pos).2) := by
 have hw := width_pos s pos h
 have e : runesAt s pos = runesFrom s (s.size + 1) pos := runesFrom_fuel s _ _ _ (by omega) (by omega)
 rw [e]
 simp only [runesFrom]
 rw [if_pos h]
 rfl
theorem runesAt_end (s : ByteArray) (pos : Nat) (h : ¬ pos < s.size) : runesAt s pos = [] := by
 unfold runesAt
 cases s.size with
 | zero => rfl
 | succ n => simp only [runesFrom]; rw [if_neg h]
theorem runesFrom_length (s : ByteArray) : ∀ f pos, (runesFrom s f pos).length ≤ f
 | 0, _ => Nat.le_refl _
 | f + 1, pos => by
  simp only [runesFrom]
  split
  · have := runesFrom_length s f (pos + (Utf8.decode s pos).2)
    simp only [List.length_cons]; omega
  · simp
theorem runesAt_length (s : ByteArray) (pos : Nat) : (runesAt s pos).length ≤ s.size := runesFrom_length s _ _
def rn (s : ByteArray) (pos : Nat) : List Nat := (runesAt s pos).map Prod.snd
theorem rn_step (s : ByteArray) (pos : Nat) (h : pos < s.size) : rn s pos = (Utf8.decode s pos).1 :: rn s (pos + (Utf8.decode s pos).2) := by
 unfold rn; rw [runesAt_step s pos h]; rfl
theorem rn_end (s : ByteArray) (pos : Nat) (h : ¬ pos < s.size) : rn s pos = [] := by
 unfold rn; rw [runesAt_end s pos h]; rfl
theorem rn_length (s : ByteArray) (pos : Nat) : (rn s pos).length ≤ s.size := by unfold rn; rw [List.length_map]; exact runesAt_length s pos
def nameFrom : Nat → List Nat → Bool
 | many, [] => decide (0 < many)
 | many, r :: t => if letB r = false ∧ (many = 0 ∨ digB r = false ∧ r ≠ 45) then false else if 24 < many + 1 then false else nameFrom (many + 1) t
def nameB (s : ByteArray) : Bool := nameFrom 0 (rn s 0)
end
section
open Go.Lib (decodeN decode_at)
def okR (r : Nat) : Prop := r < 55296 ∨ (57344 ≤ r ∧ r ≤ 1114111)
def enc (r : Nat) : List UInt8 :=
 if r < 128 then [UInt8.ofNat r]
 else if r < 2048 then [UInt8.ofNat (192 + r / 64), UInt8.ofNat (128 + r % 64)]
 else if r < 65536 then [UInt8.ofNat (224 + r / 4096), UInt8.ofNat (128 + r / 64 % 64), UInt8.ofNat (128 + r % 64)]
 else [UInt8.ofNat (240 + r / 262144), UInt8.ofNat (128 + r / 4096 % 64), UInt8.ofNat (128 + r / 64 % 64), UInt8.ofNat (128 + r % 64)]
theorem encode_enc (r : Nat) (h : okR r) : Utf8.encode (r : Int) = ⟨(enc r).toArray⟩ := by
 have hv : Utf8.valid (r : Int) = true := by
  unfold okR at h
  simp only [Utf8.valid, Bool.or_eq_true, Bool.and_eq_true, decide_eq_true_eq]
  omega
 simp only [Utf8.encode, hv, if_true, Int.toNat_natCast, enc]
 split
 · rfl
 · split
   · rfl
   · split <;> rfl
theorem enc_length (r : Nat) : 1 ≤ (enc r).length ∧ (enc r).length ≤ 4 := by
 unfold enc
 repeat' split
 all_goals simp
theorem get_getD (s : ByteArray) (i : Nat) : s.get! i = s.data.toList.getD i 0 := by
 obtain ⟨⟨l⟩⟩ := s
 simp [ByteArray.get!, List.getD_eq_getElem?_getD]
 rfl
theorem decode_list (s : ByteArray) (i : Nat) : Utf8.decode s i = decodeN (s.data.toList.length - i) (s.data.toList.getD i 0).toNat (s.data.toList.getD (i + 1) 0).toNat (s.data.toList.getD (i + 2) 0).toNat (s.data.toList.getD (i + 3) 0).toNat := by
 rw [decode_at, get_getD, get_getD, get_getD, get_getD]
 rfl
theorem toNat_ofNat (n : Nat) (h : n < 256) : (UInt8.ofNat n).toNat = n := by
 simp [UInt8.toNat_ofNat']; omega
set_option maxHeartbeats 2000000 in
theorem decode_enc (a b : List UInt8) (r : Nat) (h : okR r) : Utf8.decode ⟨(a ++ enc r ++ b).toArray⟩ a.length = (r, (enc r).length) := by
 rw [decode_list]
 have hg : ∀ i, ((a ++ enc r ++ b).getD (a.length + i) 0) = (enc r ++ b).getD i 0 := fun i => by
  rw [List.append_assoc, List.getD_eq_getElem?_getD, List.getD_eq_getElem?_getD, List.getElem?_append_right (by omega)]
  congr 2; omega
 have hg0 := hg 0
 rw [Nat.add_zero] at hg0
 show decodeN ((a ++ enc r ++ b).length - a.length) ((a ++ enc r ++ b).getD a.length 0).toNat ((a ++ enc r ++ b).getD (a.length + 1) 0).toNat ((a ++ enc r ++ b).getD (a.length + 2) 0).toNat ((a ++ enc r ++ b).getD (a.length + 3) 0).toNat = _
 rw [hg0, hg, hg, hg]
 have hn : (a ++ enc r ++ b).length - a.length = (enc r).length + b.length := by rw [List.length_append, List.length_append]; omega
 rw [hn]
 unfold okR at h
 unfold enc
 by_cases h1 : r < 128
 · rw [if_pos h1]
   simp only [List.cons_append, List.nil_append, List.getD_cons_zero, List.length_cons, List.length_nil]
   rw [toNat_ofNat r (by omega)]
   unfold decodeN
   rw [if_pos h1]
 · rw [if_neg h1]
   by_cases h2 : r < 2048
   · rw [if_pos h2]
     simp only [List.cons_append, List.nil_append, List.getD_cons_zero, List.getD_cons_succ, List.length_cons, List.length_nil]
     rw [toNat_ofNat (192 + r / 64) (by omega), toNat_ofNat (128 + r % 64) (by omega)]
     unfold decodeN
     rw [if_neg (by omega), if_pos ⟨by omega, by omega, by omega⟩, if_pos (by omega)]
     apply Prod.ext <;> simp only <;> omega
   · rw [if_neg h2]
     by_cases h3 : r < 65536
     · rw [if_pos h3]
       simp only [List.cons_append, List.nil_append, List.getD_cons_zero, List.getD_cons_succ, List.length_cons, List.length_nil]
       rw [toNat_ofNat (224 + r / 4096) (by omega), toNat_ofNat (128 + r / 64 % 64) (by omega), toNat_ofNat (128 + r % 64) (by omega)]
       unfold decodeN
       rw [if_neg (by omega), if_neg (by omega), if_pos ⟨by omega, ⟨by omega, by omega⟩, by omega, by omega⟩, if_pos (by omega)]
       apply Prod.ext <;> simp only <;> omega
     · rw [if_neg h3]
       simp only [List.cons_append, List.nil_append, List.getD_cons_zero, List.getD_cons_succ, List.length_cons, List.length_nil]
       rw [toNat_ofNat (240 + r / 262144) (by omega), toNat_ofNat (128 + r / 4096 % 64) (by omega), toNat_ofNat (128 + r / 64 % 64) (by omega), toNat_ofNat (128 + r % 64) (by omega)]
       unfold decodeN
       rw [if_neg (by omega), if_neg (by omega), if_neg (by omega), if_pos ⟨by omega, ⟨by omega, by omega⟩, ⟨by omega, by omega⟩, by omega, by omega⟩, if_pos (by omega)]
       apply Prod.ext <;> simp only <;> omega
theorem decode_ok (s : ByteArray) (p : Nat) : okR (Utf8.decode s p).1 := by
 rw [decode_list]
 have h0 := (s.data.toList.getD p 0).toNat_lt
 have h1 := (s.data.toList.getD (p + 1) 0).toNat_lt
 have h2 := (s.data.toList.getD (p + 2) 0).toNat_lt
 have h3 := (s.data.toList.getD (p + 3) 0).toNat_lt
 generalize (s.data.toList.getD p 0).toNat = b0 at *
 generalize (s.data.toList.getD (p + 1) 0).toNat = b1 at *
 generalize (s.data.toList.getD (p + 2) 0).toNat = b2 at *
 generalize (s.data.toList.getD (p + 3) 0).toNat = b3 at *
 unfold decodeN okR
 repeat' split
 all_goals (simp only; omega)
end
section
def textOf (l : List Nat) : ByteArray := ⟨(l.flatMap enc).toArray⟩
theorem textOf_toList (l : List Nat) : (textOf l).data.toList = l.flatMap enc := by simp [textOf]
theorem textOf_size (l : List Nat) : (textOf l).size = (l.flatMap enc).length := by
 show (textOf l).data.size = _
 rw [← Array.length_toList, textOf_toList]
theorem flat_length (l : List Nat) : l.length ≤ (l.flatMap enc).length ∧ (l.flatMap enc).length ≤ 4 * l.length := by
 induction l with
 | nil => simp
 | cons r t ih =>
  have := enc_length r
  simp only [List.flatMap_cons, List.length_append, List.length_cons]
  omega
theorem byteArray_ext {a b : ByteArray} (h : a.data.toList = b.data.toList) : a = b := by
 obtain ⟨⟨a⟩⟩ := a
 obtain ⟨⟨b⟩⟩ := b
 simp at h
 rw [h]
theorem append_toList (a b : ByteArray) : (a ++ b).data.toList = a.data.toList ++ b.data.toList := by simp
theorem extract_toList (s : ByteArray) (i j : Nat) : (s.extract i j).data.toList = (s.data.toList.take j).drop i := by
 simp [List.drop_take]
theorem decode_step_ok (s : ByteArray) : ∀ (f pos : Nat), ∀ x ∈ runesFrom s f pos, okR x.2
 | 0, _, x, h => by simp [runesFrom] at h
 | f + 1, pos, x, h => by
  simp only [runesFrom] at h
  split at h
  · rcases List.mem_cons.1 h with rfl | h
    · exact decode_ok s pos
    · exact decode_step_ok s f _ x h
  · simp at h
theorem rn_ok (s : ByteArray) (pos : Nat) : ∀ r ∈ rn s pos, okR r := by
 intro r hr
 obtain ⟨x, hx, rfl⟩ := List.mem_map.1 hr
 exact decode_step_ok s _ _ x hx
theorem rn_flat (a : List UInt8) (l : List Nat) (h : ∀ r ∈ l, okR r) : rn ⟨(a ++ l.flatMap enc).toArray⟩ a.length = l := by
 induction l generalizing a with
 | nil =>
  rw [rn_end]
  show ¬ a.length < (a ++ []).toArray.size
  simp
 | cons r t ih =>
  have hr := h r (List.mem_cons_self)
  have hl := enc_length r
  have hsz : a.length < (⟨(a ++ (r :: t).flatMap enc).toArray⟩ : ByteArray).size := by
   show a.length < (a ++ (r :: t).flatMap enc).toArray.size
   simp only [List.flatMap_cons, List.size_toArray, List.length_append]; omega
  have hd := decode_enc a (t.flatMap enc) r hr
  have e : a ++ (r :: t).flatMap enc = (a ++ enc r) ++ t.flatMap enc := by simp
  rw [rn_step _ _ hsz]
  rw [e, hd]
  simp only
  have := ih (a ++ enc r) (fun x hx => h x (List.mem_cons_of_mem _ hx))
  rw [List.length_append] at this
  rw [this]
theorem rn_textOf (l : List Nat) (h : ∀ r ∈ l, okR r) : rn (textOf l) 0 = l := by
 have := rn_flat [] l h
 simpa [textOf] using this
theorem nameB_textOf (l : List Nat) (h : ∀ r ∈ l, okR r) : nameB (textOf l) = nameFrom 0 l := by unfold nameB; rw [rn_textOf l h]
end
section
open Go.RowKit
theorem ret_bool {a b : Bool} (h : a = b) : Ending.returned (.bool a) = .returned (.bool b) := by rw [h]
theorem blank_any (n : Nat) (w : World) : Calls Tryz.prog 116 #[.int .i32 n] w fun e w' => e = .returned (.bool (blkB n)) ∧ w = w' := by
 go_enter Tryz.func116, Tryz.ntmps116
 go_wp2
 all_goals (go_ret; exact ⟨ret_bool (by unfold blkB; rw [Bool.eq_iff_iff]; simp; omega), rfl⟩)
theorem letter_any (n : Nat) (w : World) : Calls Tryz.prog 168 #[.int .i32 n] w fun e w' => e = .returned (.bool (letB n)) ∧ w = w' := by
 go_enter Tryz.func168, Tryz.ntmps168
 go_wp2
 all_goals (go_ret; exact ⟨ret_bool (by unfold letB; rw [Bool.eq_iff_iff]; simp; omega), rfl⟩)
theorem digit_any (n : Nat) (w : World) : Calls Tryz.prog 169 #[.int .i32 n] w fun e w' => e = .returned (.bool (digB n)) ∧ w = w' := by
 go_enter Tryz.func169, Tryz.ntmps169
 go_wp2
 all_goals (go_ret; exact ⟨ret_bool (by unfold digB; rw [Bool.eq_iff_iff]; simp; omega), rfl⟩)
theorem mayStand_any (n : Nat) (w : World) : Calls Tryz.prog 115 #[.int .i32 n] w fun e w' => e = .returned (.bool (mayB n)) ∧ w = w' := by
 go_enter Tryz.func115, Tryz.ntmps115
 go_wp2
 all_goals (go_ret; exact ⟨ret_bool (by unfold mayB; rw [Bool.eq_iff_iff]; simp; omega), rfl⟩)
end
section
open Go.RowKit
theorem below_iter (w : World) (s : ByteArray) (pos : Nat) : Below w.heap.size w (w.iter s pos) := (Below.refl _ w).alloc (Nat.le_refl _) _
theorem ret_int {k : IntKind} {a b : Int} (h : a = b) : Ending.returned (.int k a) = .returned (.int k b) := by rw [h]
set_option maxRecDepth 1000000 in
theorem name_any (s : ByteArray) (w : World) :
  Calls Tryz.prog 128 #[.string s] w fun e w' => e = .returned (.bool (nameB s)) ∧ Below w.heap.size w w' := by
 go_enter Tryz.func128, Tryz.ntmps128
 go_wp2
 go_loopw [3] (fun n w' => ∃ pos many : Nat, w' = w.iter s pos ∧ n = .int .i64 many ∧ many ≤ 24 ∧ nameFrom many (rn s pos) = nameB s) (fun _ w' => s.size - w'.iterPos w.heap.size)
 case atStart => exact ⟨0, 0, rfl, rfl, by omega, rfl⟩
 case round =>
  obtain ⟨pos, many, rfl, rfl, hm, hc⟩ := hrel
  by_cases hp : pos < s.size
  · have hnx : ∀ ty, (Instr.next (.pointer (some ⟨w.heap.size, 0, none⟩)) true ty).run Tryz.prog (w.iter s pos) = _ := fun ty => run_next_any w s pos ty hp
    have hwd := width_pos s pos hp
    rw [rn_step s pos hp] at hc
    simp only [nameFrom] at hc
    have HC : Hid _ := hc
    clear hc
    go_wp2_with (first | (go_at_call 168; refine (letter_any _ _).mono ?_; rintro e w' ⟨rfl, rfl⟩) | (go_at_call 169; refine (digit_any _ _).mono ?_; rintro e w' ⟨rfl, rfl⟩))
    all_goals first
     | (go_roundw
        case rel => exact ⟨pos + (Utf8.decode s pos).2, many + 1, rfl, by go_num, by omega, by rw [← HC.out, if_neg (by clear hnx HC; first | (simp_all; done) | (simp_all; omega)), if_neg (by omega)]⟩
        case measure => simp; omega)
     | (go_ret; exact ⟨ret_bool (by rw [← HC.out]; split; rfl; split; rfl; exfalso; clear hnx HC; first | omega | (simp_all; done) | (simp_all; omega)), below_iter _ _ _⟩)
  · have hnx : ∀ ty, (Instr.next (.pointer (some ⟨w.heap.size, 0, none⟩)) true ty).run Tryz.prog (w.iter s pos) = _ := fun ty => run_next_end w s pos ty hp
    rw [rn_end s pos hp] at hc
    simp only [nameFrom] at hc
    have HC : Hid _ := hc
    clear hc
    go_wp2
    go_ret
    exact ⟨ret_bool (by rw [← HC.out]), below_iter w s pos⟩
theorem below_on' {w w' w'' : World} (h : Below w.heap.size w w') (k : Below w'.heap.size w' w'') : Below w.heap.size w w'' := h.trans (k.mono h.size)
end
section
open Go.RowKit
theorem own_below {W W' : World} {B e size n : Nat} {v : Value} {xs : List Value} (h : W.ownsRow B e size v n xs) (hb : Below W.heap.size W W') : W'.ownsRow B e size v n xs :=
 h.kept (row := none) ⟨hb.os, hb.tape, hb.output, hb.size, fun k hk _ => hb.block k hk⟩ (by cases hv : v.ownBlock <;> simp)
theorem own_iterAt {w : World} {B e size n : Nat} {v : Value} {xs : List Value} {k : Nat} {s : ByteArray} {pos : Nat} (h : w.ownsRow B e size v n xs) (hk : w.heap[k]? = some (.stringIter s pos)) (pos' : Nat) : (w.iterAt k s pos').ownsRow B e size v n xs := by
 refine ⟨h.1, ?_⟩
 rcases h.2 with h0 | ⟨g, cap, cur, hv, hb, hg, rest⟩
 · exact .inl h0
 · refine .inr ⟨g, cap, cur, hv, hb, ?_, rest⟩
   rw [Lib.iterAt_other _ _ _ _ _ (fun e => by subst e; rw [hk] at hg; cases hg)]
   exact hg
theorem own_ne_iter {w : World} {B e size n : Nat} {v : Value} {xs : List Value} {k : Nat} {s : ByteArray} {pos : Nat} (h : w.ownsRow B e size v n xs) (hk : w.heap[k]? = some (.stringIter s pos)) : some k ≠ v.ownBlock := by
 rcases h.2 with ⟨rfl, _⟩ | ⟨g, cap, cur, rfl, hb, hg, rest⟩
 · simp [Value.ownBlock]
 · intro e
   simp only [Value.ownBlock, Option.some.injEq] at e
   subst e
   rw [hk] at hg
   cases hg
theorem own_cases {w : World} {B e n : Nat} {v : Value} {xs : List Value} (h : w.ownsRow B e 1 v n xs) :
  (v = .slice none 0 0 ∧ n = 0) ∨ ∃ g cap, v = .slice (some ⟨g, 0, none⟩) n cap ∧ n ≤ cap ∧ cap ≤ maxLen ∧ B ≤ g ∧ g < w.heap.size ∧ ∀ j u, xs[j]? = some u → w.cell? ⟨g, j, none⟩ = some u := by
 rcases h.2 with h0 | ⟨g, cap, cur, rfl, hb, hg, h1, h2, h3, h4⟩
 · exact .inl h0
 · refine .inr ⟨g, cap, rfl, h1, h2, hb, (Array.getElem?_eq_some_iff.1 hg).1, fun j u hj => ?_⟩
   have := h.cells (g := g) rfl j u hj
   have hadd : (⟨g, 0, none⟩ : Addr).add j = ⟨g, j, none⟩ := by unfold Addr.add; split <;> simp_all
   rwa [hadd] at this
theorem cell_one_new (w : World) (x : Value) (t : TypeId) : ∀ j u, [x][j]? = some u → (w.alloc (.cells #[x] t)).cell? ((⟨w.heap.size, 0, none⟩ : Addr).add j) = some u := by
 intro j u hj
 match j, hj with
 | 0, hj => simp at hj; subst hj; simp [Addr.add]
 | (j + 1), hj => simp at hj
theorem info3 : (Tryz.prog.info? 3).map (fun i => (i.zero, i.size, i.bytes)) = some (some (.int .i64 0), 1, 8) := by kernel_rfl
theorem info9 : (Tryz.prog.info? 9).map (fun i => (i.zero, i.size, i.bytes)) = some (some (.string ⟨#[]⟩), 1, 16) := by kernel_rfl
theorem own_slice {w : World} {B e n : Nat} {v : Value} {xs : List Value} (h : w.ownsRow B e 1 v n xs) : ∃ a cap, v = .slice a n cap ∧ n ≤ cap ∧ cap ≤ maxLen := by
 rcases own_cases h with ⟨rfl, rfl⟩ | ⟨g, cap, rfl, h1, h2, _⟩
 · exact ⟨none, 0, rfl, Nat.le_refl _, Nat.zero_le _⟩
 · exact ⟨_, cap, rfl, h1, h2⟩
end
section
open Go.RowKit
def wordsGo (s : ByteArray) : Bool → Nat → List ByteArray → List (Nat × Nat) → Option (List ByteArray)
 | within, b, acc, [] => some (if within then acc ++ [s.extract b s.size] else acc)
 | within, b, acc, (p, r) :: t =>
  if mayB r then
   if blkB r then (if within then wordsGo s false b (acc ++ [s.extract b p]) t else wordsGo s false b acc t)
   else (if within then wordsGo s true b acc t else wordsGo s true p acc t)
  else none
def wordsO (s : ByteArray) : List ByteArray × Int :=
 if 400 < s.size then ([], 3) else
 match wordsGo s false 0 [] (runesAt s 0) with
 | none => ([], 10)
 | some l => (l, 0)
def WordsPost (s : ByteArray) (w : World) (e : Ending) (w' : World) : Prop :=
 ∃ v, e = .returned (.tuple #[v, .int .i64 (wordsO s).2]) ∧ w'.ownsRow w.heap.size 9 1 v (wordsO s).1.length ((wordsO s).1.map Value.string) ∧ Below w.heap.size w w'
theorem words_fail {s : ByteArray} {w w' : World} {c : Int} (h : wordsO s = ([], c)) (hb : Below w.heap.size w w') : WordsPost s w (.returned (.tuple #[.slice none 0 0, .int .i64 c])) w' :=
 ⟨.slice none 0 0, by rw [h], by rw [h]; exact World.ownsRow_nil _ _ _ _, hb⟩
theorem words_fine {s : ByteArray} {w w' : World} {v : Value} {l : List ByteArray} (h : wordsO s = (l, 0)) (ho : w'.ownsRow w.heap.size 9 1 v l.length (l.map Value.string)) (hb : Below w.heap.size w w') : WordsPost s w (.returned (.tuple #[v, .int .i64 0])) w' :=
 ⟨v, by rw [h], by rw [h]; exact ho, hb⟩
def WordsRel (s : ByteArray) (w : World) (u4 u5 u6 : Value) (wr : World) : Prop :=
 ∃ pos b within acc, wr.heap[w.heap.size]? = some (.stringIter s pos) ∧ wr.ownsRow w.heap.size 9 1 u4 acc.length (acc.map Value.string) ∧ u5 = .int .i64 (b : Nat) ∧ u6 = .bool within ∧ Below w.heap.size w wr ∧
  wordsGo s within b acc (runesAt s pos) = wordsGo s false 0 [] (runesAt s 0) ∧ acc.length + (runesAt s pos).length ≤ s.size ∧ b ≤ pos ∧ b ≤ s.size
theorem words_on {s : ByteArray} {w wr : World} {u4 : Value} {pos b b' : Nat} {within within' : Bool} {acc : List ByteArray} (hp : pos < s.size)
  (hit : wr.heap[w.heap.size]? = some (.stringIter s pos)) (h4 : wr.ownsRow w.heap.size 9 1 u4 acc.length (acc.map Value.string)) (hb : Below w.heap.size w wr)
  (hg : wordsGo s within b acc (runesAt s pos) = wordsGo s false 0 [] (runesAt s 0)) (hl : acc.length + (runesAt s pos).length ≤ s.size)
  (hs : wordsGo s within b acc ((pos, (Utf8.decode s pos).1) :: runesAt s (pos + (Utf8.decode s pos).2)) = wordsGo s within' b' acc (runesAt s (pos + (Utf8.decode s pos).2))) (hb' : b' ≤ pos) :
  WordsRel s w u4 (.int .i64 b') (.bool within') (wr.iterAt w.heap.size s (pos + (Utf8.decode s pos).2)) ∧ (wr.iterAt w.heap.size s (pos + (Utf8.decode s pos).2)).heap[w.heap.size]? = some (.stringIter s (pos + (Utf8.decode s pos).2)) := by
 have hit2 := Lib.iterAt_heap wr w.heap.size s pos (pos + (Utf8.decode s pos).2) hit
 have hwd := width_pos s pos hp
 rw [runesAt_step s pos hp] at hg hl
 rw [List.length_cons] at hl
 exact ⟨⟨_, b', within', acc, hit2, own_iterAt h4 hit _, rfl, rfl, Lib.below_iterAt hb (Nat.le_refl _) s _, hs.symm.trans hg, by omega, by omega, by omega⟩, hit2⟩
theorem words_more {s : ByteArray} {w wr w1 : World} {u4 v4 : Value} {pos b : Nat} {acc : List ByteArray} (hp : pos < s.size)
  (hit : wr.heap[w.heap.size]? = some (.stringIter s pos)) (h4 : wr.ownsRow w.heap.size 9 1 u4 acc.length (acc.map Value.string)) (hb : Below w.heap.size w wr)
  (hg : wordsGo s true b acc (runesAt s pos) = wordsGo s false 0 [] (runesAt s 0)) (hl : acc.length + (runesAt s pos).length ≤ s.size) (hb' : b ≤ pos)
  (hm : mayB (Utf8.decode s pos).1 = true) (hk : blkB (Utf8.decode s pos).1 = true)
  (k4 : w1.ownsRow w.heap.size 9 1 v4 (acc.length + 1) (acc.map Value.string ++ [.string (s.extract b pos)]))
  (g4 : ((wr.iterAt w.heap.size s (pos + (Utf8.decode s pos).2)).alloc (.cells #[.string (s.extract b pos)] 9)).grownBy w1 u4.ownBlock) :
  WordsRel s w v4 (.int .i64 b) (.bool false) w1 ∧ w1.heap[w.heap.size]? = some (.stringIter s (pos + (Utf8.decode s pos).2)) := by
 have hsz : w.heap.size < wr.heap.size := (Array.getElem?_eq_some_iff.1 hit).1
 have hit2 := Lib.iterAt_heap wr w.heap.size s pos (pos + (Utf8.decode s pos).2) hit
 have hsz2 : (wr.iterAt w.heap.size s (pos + (Utf8.decode s pos).2)).heap.size = wr.heap.size := Lib.iterAt_size _ _ _ _
 have h4b := own_iterAt h4 hit (pos + (Utf8.decode s pos).2)
 have hwd := width_pos s pos hp
 have hit3 : w1.heap[w.heap.size]? = some (.stringIter s (pos + (Utf8.decode s pos).2)) := by
  rw [g4.block w.heap.size (by simp; omega) (own_ne_iter h4b hit2), Below.heap_alloc _ _ _ (by omega)]
  exact hit2
 have hb2 := Lib.below_iterAt hb (k := w.heap.size) (Nat.le_refl _) s (pos + (Utf8.decode s pos).2)
 have hb3 : Below w.heap.size w w1 := (hb2.alloc (by omega) _).grown g4 (by simp; omega) (fun j hj => (h4.lt j hj).1)
 rw [runesAt_step s pos hp] at hg hl
 rw [List.length_cons] at hl
 refine ⟨⟨_, b, false, acc ++ [s.extract b pos], hit3, by simpa using k4, rfl, rfl, hb3, ?_, by simp; omega, by omega, by omega⟩, hit3⟩
 rw [← hg]
 simp [wordsGo, hm, hk]
theorem words_end {s : ByteArray} {pos b : Nat} {within : Bool} {acc : List ByteArray} (hp : ¬ pos < s.size) (h400 : ¬ 400 < s.size) (hg : wordsGo s within b acc (runesAt s pos) = wordsGo s false 0 [] (runesAt s 0)) :
  wordsO s = (if within then acc ++ [s.extract b s.size] else acc, 0) := by
 rw [runesAt_end s pos hp] at hg
 unfold wordsO
 rw [if_neg h400, ← hg]
 rfl
theorem words_bad {s : ByteArray} {pos b : Nat} {within : Bool} {acc : List ByteArray} (hp : pos < s.size) (h400 : ¬ 400 < s.size) (hg : wordsGo s within b acc (runesAt s pos) = wordsGo s false 0 [] (runesAt s 0)) (hm : mayB (Utf8.decode s pos).1 = false) :
  wordsO s = ([], 10) := by
 rw [runesAt_step s pos hp] at hg
 unfold wordsO
 rw [if_neg h400, ← hg]
 simp [wordsGo, hm]
set_option maxRecDepth 1000000 in
theorem words_long (s : ByteArray) (w : World) (hs : 400 < s.size) : Calls Tryz.prog 73 #[.string s] w (WordsPost s w) := by
 go_enter Tryz.func73, Tryz.ntmps73
 go_wp2
 go_ret2
 exact words_fail (by unfold wordsO; rw [if_pos hs]) (Below.refl _ _)
set_option maxHeartbeats 1600000 in
set_option maxRecDepth 1000000 in
theorem words_any (s : ByteArray) (w : World) : Calls Tryz.prog 73 #[.string s] w (WordsPost s w) := by
 by_cases h400 : 400 < s.size
 · exact words_long s w h400
 obtain ⟨i0, hi, hz0, hz1, hz2⟩ := info_parts info9
 go_enter Tryz.func73, Tryz.ntmps73
 go_wp2
 go_loopw [4, 5, 6] (fun u4 u5 u6 wr => WordsRel s w u4 u5 u6 wr) (fun _ _ _ wr => s.size - wr.iterPos w.heap.size)
 case atStart => exact ⟨0, 0, false, [], World.iter_heap w s 0, World.ownsRow_nil _ _ _ _, rfl, rfl, below_iter w s 0, rfl, by have := runesAt_length s 0; simpa using this, Nat.zero_le _, Nat.zero_le _⟩
 case round =>
  obtain ⟨pos, b, within, acc, hit, h4, rfl, rfl, hb, hg, hl, hbp, hbs⟩ := hrel
  have HG := Lib.hid hg; clear hg
  by_cases hp : pos < s.size
  · have hnx : ∀ ty, (Instr.next (.pointer (some ⟨w.heap.size, 0, none⟩)) true ty).run Tryz.prog wr = _ := fun ty => Lib.run_next_any_at wr w.heap.size s pos ty hit hp
    have hwd := width_pos s pos hp
    have HW := Lib.hid hit
    cases hm : mayB (Utf8.decode s pos).1 with
    | false =>
     have hb2 := Lib.below_iterAt hb (k := w.heap.size) (Nat.le_refl _) s (pos + (Utf8.decode s pos).2)
     go_wp2_with (first | (go_at_call 115; refine (mayStand_any _ _).mono ?_; rintro e w' ⟨rfl, rfl⟩) | (go_at_call 116; refine (blank_any _ _).mono ?_; rintro e w' ⟨rfl, rfl⟩))
     go_ret2
     exact words_fail (words_bad hp h400 HG.out hm) hb2
    | true =>
     cases hk : blkB (Utf8.decode s pos).1 <;> cases within
     · have HR := Lib.hid (words_on (within' := true) (b' := pos) hp hit h4 hb HG.out hl (by simp [wordsGo, hm, hk]) (Nat.le_refl _))
       clear hit
       go_wp2_with (first | (go_at_call 115; refine (mayStand_any _ _).mono ?_; rintro e w' ⟨rfl, rfl⟩) | (go_at_call 116; refine (blank_any _ _).mono ?_; rintro e w' ⟨rfl, rfl⟩))
       go_roundw
       case rel => exact HR.out.1
       case measure => simp only [World.iterPos, HR.out.2, HW.out]; omega
     · have HR := Lib.hid (words_on (within' := true) (b' := b) hp hit h4 hb HG.out hl (by simp [wordsGo, hm, hk]) hbp)
       clear hit
       go_wp2_with (first | (go_at_call 115; refine (mayStand_any _ _).mono ?_; rintro e w' ⟨rfl, rfl⟩) | (go_at_call 116; refine (blank_any _ _).mono ?_; rintro e w' ⟨rfl, rfl⟩))
       go_roundw
       case rel => exact HR.out.1
       case measure => simp only [World.iterPos, HR.out.2, HW.out]; omega
     · have HR := Lib.hid (words_on (within' := false) (b' := b) hp hit h4 hb HG.out hl (by simp [wordsGo, hm, hk]) hbp)
       clear hit
       go_wp2_with (first | (go_at_call 115; refine (mayStand_any _ _).mono ?_; rintro e w' ⟨rfl, rfl⟩) | (go_at_call 116; refine (blank_any _ _).mono ?_; rintro e w' ⟨rfl, rfl⟩))
       go_roundw
       case rel => exact HR.out.1
       case measure => simp only [World.iterPos, HR.out.2, HW.out]; omega
     · have hbp' : (b : Int) ≤ (pos : Int) := by omega
       have hps : (pos : Int) ≤ (s.size : Int) := by omega
       have h4b := own_iterAt h4 hit (pos + (Utf8.decode s pos).2)
       have hsz : w.heap.size < wr.heap.size := (Array.getElem?_eq_some_iff.1 hit).1
       have HSZ : Hid (∀ o, w.heap.size ≤ ((wr.iterAt w.heap.size s (pos + (Utf8.decode s pos).2)).alloc o).heap.size) := Lib.hid (fun o => by
        rw [World.size_alloc, Lib.iterAt_size]; omega)
       go_wp2_with (first | (go_at_call 115; refine (mayStand_any _ _).mono ?_; rintro e w' ⟨rfl, rfl⟩) | (go_at_call 116; refine (blank_any _ _).mono ?_; rintro e w' ⟨rfl, rfl⟩) | (at_builtin; refine wpList_append_own _ rfl (.tmp 28) (.tmp 33) 106 rfl w.heap.size 9 i0 (.string ⟨#[]⟩) 1 16 Tryz.underlying106 hi hz0 hz1 hz2 rfl (by decide) _ _ _ rfl (h4b.alloc _) ⟨_, 0, none⟩ 1 1 [.string (s.extract b pos)] rfl rfl (cell_one_new _ _ _) (by simp [Value.oneCell']) (by unfold maxLen; omega) (by omega) (HSZ.out _) ?_))
       intro v4 w1 k4 g4 _
       have HR := Lib.hid (words_more hp hit h4 hb HG.out hl hbp hm hk k4 g4)
       clear hit
       go_wp2
       go_roundw
       case rel => exact HR.out.1
       case measure => simp only [World.iterPos, HR.out.2, HW.out]; omega
  · have hnx : ∀ ty, (Instr.next (.pointer (some ⟨w.heap.size, 0, none⟩)) true ty).run Tryz.prog wr = _ := fun ty => Lib.run_next_end_at wr w.heap.size s pos ty hit hp
    have hsz : w.heap.size < wr.heap.size := (Array.getElem?_eq_some_iff.1 hit).1
    have HE := Lib.hid (words_end hp h400 HG.out)
    cases within
    · go_wp2
      go_ret2
      exact words_fine HE.out h4 hb
    · have HSZ : Hid (∀ o, w.heap.size ≤ (wr.alloc o).heap.size) := Lib.hid (fun o => by rw [World.size_alloc]; omega)
      go_wp2_with (at_builtin; refine wpList_append_own _ rfl (.tmp 45) (.tmp 49) 106 rfl w.heap.size 9 i0 (.string ⟨#[]⟩) 1 16 Tryz.underlying106 hi hz0 hz1 hz2 rfl (by decide) _ _ _ rfl (h4.alloc _) ⟨_, 0, none⟩ 1 1 [.string (s.extract b s.size)] rfl rfl (cell_one_new _ _ _) (by simp [Value.oneCell']) (by unfold maxLen; omega) (by omega) (HSZ.out _) ?_)
      intro v4 w1 k4 g4 _
      have hb3 : Below w.heap.size w w1 := (hb.alloc (by omega) _).grown g4 (HSZ.out _) (fun j hj => (h4.lt j hj).1)
      go_wp2
      go_ret2
      exact words_fine HE.out (by simpa using k4) hb3
end
end Go.Proofs.YtepdecnegihhhaaGreatDoor.nam

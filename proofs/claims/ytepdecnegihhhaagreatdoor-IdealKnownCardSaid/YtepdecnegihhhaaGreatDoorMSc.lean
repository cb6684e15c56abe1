/- Plain facts on scripts: their lines, what each tells, the job of all of them; lines that say nothing. No program's run in this .. -/
import Derived.Test.YtepdecnegihhhaaGreatDoorMJb
import Derived.Test.YtepdecnegihhhaaGreatDoorMNm
import Derived.Test.YtepdecnegihhhaaGreatDoorMEt
import Derived.Lib.DecodeN
import Derived.Lib.SlTrimSet
import Derived.Lib.Strings
import Derived.Lib.IndexMore
import Derived.Test.YtepdecnegihhhaaGreatDoorMLx
import Derived.Test.YtepdecnegihhhaaGreatDoorCs
import Derived.Shelf.Strings.SlTrimAscii
import Derived.Test.YtepdecnegihhhaaGreatDoorMJd
import Derived.Test.YtepdecnegihhhaaGreatDoorLgW
set_option linter.unusedSimpArgs false
set_option linter.unusedVariables false
namespace Go.Proofs.YtepdecnegihhhaaGreatDoor.sc
section
open nam exp jb
def ba (l : List UInt8) : ByteArray := ⟨l.toArray⟩
def linesGo (s : ByteArray) : Nat → List ByteArray → List (Nat × Nat) → List ByteArray
 | b, acc, [] => acc ++ [s.extract b s.size]
 | b, acc, (p, r) :: t => if r = 10 then linesGo s (p + 1) (acc ++ [s.extract b p]) t else linesGo s b acc t
def linesO (s : ByteArray) : List ByteArray := linesGo s 0 [] (runesAt s 0)
def splitL : List UInt8 → List UInt8 → List (List UInt8)
 | cur, [] => [cur]
 | cur, c :: t => if c = 10 then cur :: splitL [] t else splitL (cur ++ [c]) t
theorem splitL_on : ∀ (bs cur rest : List UInt8), (∀ c ∈ bs, c ≠ 10) → splitL cur (bs ++ rest) = splitL (cur ++ bs) rest
 | [], cur, rest, _ => by simp
 | c :: bs, cur, rest, h => by
  rw [List.cons_append, splitL, if_neg (h c (by simp)), splitL_on bs (cur ++ [c]) rest (fun x hx => h x (List.mem_cons_of_mem _ hx)), List.append_assoc, List.singleton_append]
def seg (s : ByteArray) (b e : Nat) : List UInt8 := (s.data.toList.take e).drop b
theorem seg_ba (s : ByteArray) (b e : Nat) : ba (seg s b e) = s.extract b e := by
 unfold ba seg
 apply ByteArray.ext
 apply Array.ext'
 simp [ByteArray.data_extract, List.drop_take]
theorem decodeN_big (n b0 b1 b2 b3 : Nat) (h : 128 ≤ b0) : 128 ≤ (Lib.decodeN n b0 b1 b2 b3).1 := by
 unfold Lib.decodeN
 repeat' split
 all_goals (simp only; omega)
theorem behind (n b0 b1 b2 b3 : Nat) : (2 ≤ (Lib.decodeN n b0 b1 b2 b3).2 → 128 ≤ b1 ∧ 1 < n) ∧ (3 ≤ (Lib.decodeN n b0 b1 b2 b3).2 → 128 ≤ b2 ∧ 2 < n) ∧ (4 ≤ (Lib.decodeN n b0 b1 b2 b3).2 → 128 ≤ b3 ∧ 3 < n) ∧ (Lib.decodeN n b0 b1 b2 b3).2 ≤ 4 := by
 unfold Lib.decodeN
 repeat' split
 all_goals (simp only; omega)
theorem get_list (s : ByteArray) (i : Nat) (h : i < s.size) : s.data.toList[i]? = some (s.get! i) := by
 have h1 : i < s.data.size := h
 have h2 : i < s.data.toList.length := by simpa using h1
 rw [List.getElem?_eq_getElem h2]
 congr 1
 rw [Array.getElem_toList]
 show s.data[i] = s.data[i]!
 rw [getElem!_pos s.data i h1]
theorem seg_on (s : ByteArray) (b p k : Nat) (hb : b ≤ p) (hk : p + k ≤ s.size) : seg s b (p + k) = seg s b p ++ (s.data.toList.drop p).take k := by
 unfold seg
 have hl : s.data.toList.length = s.size := by rw [Array.length_toList]; rfl
 rw [List.take_add, List.drop_append_of_le_length (by rw [List.length_take, hl]; omega)]
theorem lines_eq (s : ByteArray) : ∀ (f pos b : Nat) (acc : List ByteArray), s.size ≤ pos + f → pos ≤ s.size → b ≤ pos →
  linesGo s b acc (runesAt s pos) = acc ++ (splitL (seg s b pos) (s.data.toList.drop pos)).map ba
 | 0, pos, b, acc, h1, h2, h3 => by
  have hl : s.data.toList.length = s.size := by rw [Array.length_toList]; rfl
  have hp : pos = s.size := by omega
  rw [runesAt_end s pos (by omega), List.drop_eq_nil_of_le (by omega), hp, linesGo, splitL, List.map_singleton, seg_ba]
 | f + 1, pos, b, acc, h1, h2, h3 => by
  have hl : s.data.toList.length = s.size := by rw [Array.length_toList]; rfl
  by_cases hp : pos < s.size
  · rw [runesAt_step s pos hp]
    have hd : s.data.toList.drop pos = s.get! pos :: s.data.toList.drop (pos + 1) := by
     rw [List.drop_eq_getElem_cons (by omega : pos < s.data.toList.length)]
     have := get_list s pos hp
     rw [List.getElem?_eq_getElem (by omega)] at this
     rw [Option.some.inj this]
    by_cases ha : (s.get! pos).toNat < 128
    · have hda : Utf8.decode s pos = ((s.get! pos).toNat, 1) := by
       unfold Utf8.decode
       simp only [Nat.add_zero]
       rw [if_pos ha]
      rw [hda]
      simp only []
      by_cases h10 : s.get! pos = 10
      · rw [linesGo, if_pos (by rw [h10]; rfl), lines_eq s f (pos + 1) (pos + 1) _ (by omega) (by omega) (Nat.le_refl _), hd, splitL, if_pos h10, List.map_cons, seg_ba]
        have : seg s (pos + 1) (pos + 1) = [] := by unfold seg; rw [List.drop_eq_nil_of_le (by rw [List.length_take]; omega)]
        rw [this]
        simp
      · rw [linesGo, if_neg (fun h => h10 (UInt8.toNat_inj.1 (by rw [h]; rfl))), lines_eq s f (pos + 1) b _ (by omega) (by omega) (by omega), hd, splitL, if_neg h10, seg_on s b pos 1 h3 (by omega), hd]
        simp
    · have hN := Lib.decode_at s pos
      have hb0 : (s.get! pos).toNat < 256 := (s.get! pos).toNat_lt
      obtain ⟨c2, c3, c4, c5⟩ := behind (s.size - pos) (s.get! pos).toNat (s.get! (pos + 1)).toNat (s.get! (pos + 2)).toNat (s.get! (pos + 3)).toNat
      have hbig := decodeN_big (s.size - pos) (s.get! pos).toNat (s.get! (pos + 1)).toNat (s.get! (pos + 2)).toNat (s.get! (pos + 3)).toNat (by omega)
      rw [← hN] at c2 c3 c4 c5 hbig
      have hw := width_pos s pos hp
      obtain ⟨wd, hwd⟩ : ∃ wd, (Utf8.decode s pos).2 = wd := ⟨_, rfl⟩
      rw [hwd] at c2 c3 c4 c5 hw ⊢
      have hle : pos + wd ≤ s.size := by omega
      rw [linesGo, if_neg (by omega), lines_eq s f (pos + wd) b _ (by omega) hle (by omega), seg_on s b pos wd h3 hle]
      have hsp : s.data.toList.drop pos = (s.data.toList.drop pos).take wd ++ s.data.toList.drop (pos + wd) := by
       rw [← List.drop_drop, List.take_append_drop]
      have hno : ∀ c ∈ (s.data.toList.drop pos).take wd, c ≠ 10 := by
       intro c hc
       obtain ⟨j, hj, hjc⟩ := List.mem_iff_getElem.1 hc
       have hj2 : j < wd := by rw [List.length_take] at hj; omega
       have hg := get_list s (pos + j) (by omega)
       have hcj : c = s.get! (pos + j) := by
        rw [← hjc, List.getElem_take, List.getElem_drop]
        rw [List.getElem?_eq_getElem (by omega)] at hg
        exact Option.some.inj hg
       intro h10
       rw [h10] at hcj
       have h10n : (s.get! (pos + j)).toNat = 10 := by rw [← hcj]; rfl
       rcases (by omega : j = 0 ∨ j = 1 ∨ j = 2 ∨ j = 3) with rfl | rfl | rfl | rfl
       · rw [Nat.add_zero] at h10n; omega
       · have := (c2 (by omega)).1; omega
       · have := (c3 (by omega)).1; omega
       · have := (c4 (by omega)).1; omega
      conv => rhs; rw [hsp]
      rw [splitL_on _ _ _ hno]
  · have hp' : pos = s.size := by omega
    rw [runesAt_end s pos (by omega), List.drop_eq_nil_of_le (by omega), hp', linesGo, splitL, List.map_singleton, seg_ba]
theorem lines_split (s : ByteArray) : linesO s = (splitL [] s.data.toList).map ba := by
 unfold linesO
 rw [lines_eq s s.size 0 0 [] (by omega) (by omega) (Nat.le_refl _)]
 simp [seg]
def ahead (line : ByteArray) (n : Nat) (s : ByteArray) : ByteArray := ba ((List.replicate n (line.data.toList ++ [10])).flatten ++ s.data.toList)
def silentB (l : ByteArray) : Bool := Lib.hasPrefix l.data.toList [35] || (Lib.trimS l.data.toList [32, 9]).isEmpty
def cutO (l : ByteArray) : ByteArray × ByteArray × Bool := if 0 ≤ Lib.indexByte l.data.toList 58 then (l.extract 0 (Lib.indexByte l.data.toList 58).toNat, l.extract ((Lib.indexByte l.data.toList 58).toNat + 1) l.size, true) else (l, ⟨#[]⟩, false)
def numGo (most : Nat) : Nat → List (Nat × Nat) → Option Nat
 | n, [] => some n
 | n, (p, r) :: t => if p = most ∨ r < 48 ∨ 57 < r then none else numGo most (10 * n + (r - 48)) t
def numO (s : ByteArray) (most : Nat) : Option Nat := numGo most 0 (runesAt s 0)
def words9 : List ByteArray := [⟨#[]⟩, ⟨#[115, 111, 117, 114, 99, 101]⟩, ⟨#[109, 97, 112]⟩, ⟨#[102, 105, 108, 116, 101, 114]⟩, ⟨#[102, 108, 97, 116]⟩, ⟨#[107, 101, 121]⟩, ⟨#[114, 101, 100, 117, 99, 101]⟩, ⟨#[119, 105, 110, 100, 111, 119]⟩, ⟨#[117, 110, 105, 111, 110]⟩, ⟨#[115, 105, 110, 107]⟩]
def wordK (k : Nat) : ByteArray := words9.getD k ⟨#[]⟩
def hasN (k : Nat) : Bool := k == 7
def hasX (k : Nat) : Bool := decide (2 ≤ k) && decide (k ≤ 6)
def kindGo (s : ByteArray) : Nat → Nat → Nat
 | 0, _ => 0
 | n + 1, k => if wordK k = s then k else kindGo s n (k + 1)
def kindOfO (s : ByteArray) : Nat := kindGo s 9 1
def insO (l : List Nd) (us : List ByteArray) : List Int := us.map (findI l)
def allB (l : List Nd) (us : List ByteArray) : Bool := us.all fun u => decide (0 ≤ findI l u)
def lastW (us : List ByteArray) : ByteArray := us.getLast?.getD ⟨#[]⟩
def cutF (us : List ByteArray) : List ByteArray × Nat × Bool := if us.length = 0 then ([], 0, false) else (us.take (us.length - 1), (numO (lastW us) 2).getD 0, (numO (lastW us) 2).isSome)
def restF (ws : List ByteArray) : List ByteArray × Nat × Bool :=
 if hasN (kindOfO (ws.getD 1 ⟨#[]⟩)) then cutF (ws.drop 2) else (ws.drop 2, 0, kindOfO (ws.getD 1 ⟨#[]⟩) != 0)
def toldF (l : List Nd) (ws : List ByteArray) : Nd × Bool :=
 if ws.length < 2 then (⟨⟨#[]⟩, 0, [], Ex.zero, 0⟩, false) else
 (⟨ws.getD 0 ⟨#[]⟩, kindOfO (ws.getD 1 ⟨#[]⟩), insO l (restF ws).1, Ex.zero, ((restF ws).2.1 : Int)⟩, (restF ws).2.2 && allB l (restF ws).1)
def nodeO (l : List Nd) (ws : List ByteArray) (text : ByteArray) (colon : Bool) : Except Int Nd :=
 if (toldF l ws).2 = false then .error 130
 else if colon != hasX (toldF l ws).1.kind then .error 130
 else if colon then
  (if (parseO (ba (Lib.trimLeftS text.data.toList [32, 9]))).2.2 ≠ 0 then .error (parseO (ba (Lib.trimLeftS text.data.toList [32, 9]))).2.2
   else .ok ⟨(toldF l ws).1.uid, (toldF l ws).1.kind, (toldF l ws).1.ins, (parseO (ba (Lib.trimLeftS text.data.toList [32, 9]))).1, (toldF l ws).1.n⟩)
 else .ok (toldF l ws).1
def parW : ByteArray := ⟨#[112, 97, 114]⟩
def parO (ws : List ByteArray) : Option Nat := match ws with
 | [p, n] => if p = parW then numO n 1 else none
 | _ => none
structure Rdr where
 par : Int
 nodes : List Nd
 said : List Int
def takeO (r : Rdr) (line : ByteArray) : Except Int (Int × List Nd) :=
 if (wordsO (cutO line).1).2 ≠ 0 then .error (wordsO (cutO line).1).2
 else if r.said.length = 0 then
  (if (cutO line).2.2 then .error 130 else match parO (wordsO (cutO line).1).1 with
   | none => .error 130
   | some n => .ok ((n : Int), r.nodes))
 else match nodeO r.nodes (wordsO (cutO line).1).1 (cutO line).2.1 (cutO line).2.2 with
  | .error e => .error e
  | .ok nd => .ok (r.par, r.nodes ++ [nd])
abbrev Res := Int × List Nd × Int × Int
def wholeO (r : Rdr) : Res :=
 if r.said.length = 0 then (0, [], 0, 130)
 else if (mayO r.par r.nodes).2 = 0 then (r.par, r.nodes, 0, 0)
 else if (mayO r.par r.nodes).2 = 2 then (0, [], 0, 2)
 else (0, [], r.said.getD (1 + (mayO r.par r.nodes).1).toNat 0, (mayO r.par r.nodes).2)
def goO : List ByteArray → Nat → Rdr → Res
 | [], _, r => wholeO r
 | l :: t, i, r => if silentB l then goO t (i + 1) r else match takeO r l with
  | .error e => (0, [], ((i + 1 : Nat) : Int), e)
  | .ok (p, ns) => goO t (i + 1) ⟨p, ns, r.said ++ [((i + 1 : Nat) : Int)]⟩
def parseJ (s : ByteArray) : Res := if 65536 < s.size then (0, [], 0, 3) else goO (linesO s) 0 ⟨0, [], []⟩
end
section
open Go.RowKit nam exp jb
theorem tl_iff {a b : ByteArray} : a.toList = b.toList ↔ a = b := by
 constructor
 · intro h
   rw [ByteArray.toList_eq, ByteArray.toList_eq] at h
   exact ByteArray.ext (by have := congrArg List.toArray h; simpa using this)
 · intro h; rw [h]
theorem se {a b : ByteArray} (h : a = b) : (a.toList == b.toList) = true := by subst h; simp
theorem sn {a b : ByteArray} (h : a ≠ b) : (a.toList == b.toList) = false := by
 cases hx : (a.toList == b.toList) with
 | false => rfl
 | true => exact absurd (tl_iff.1 (eq_of_beq hx)) h
def kindCell (k : Nat) : List Value := [.string (wordK k), .bool (hasN k), .bool (hasX k)]
def kindCells : List Value := (List.range 10).flatMap kindCell
def KTab (w : World) : Prop := ∃ t fr, w.heap[1]? = some (.cells kindCells.toArray t fr)
theorem KTab.on {w w' : World} (h : KTab w) (hb : Below w.heap.size w w') : KTab w' := by
 obtain ⟨t, fr, h⟩ := h
 exact ⟨t, fr, (hb.block _ (Array.getElem?_eq_some_iff.1 h).1).trans h⟩
theorem KTab.row {w : World} (h : KTab w) {k : Nat} (hk : k < 10) : w.cell? ⟨1, k * 3, none⟩ = some (.string (wordK k)) ∧ w.cell? ⟨1, k * 3 + 1, none⟩ = some (.bool (hasN k)) ∧ w.cell? ⟨1, k * 3 + 2, none⟩ = some (.bool (hasX k)) := by
 obtain ⟨t, fr, h⟩ := h
 match k, hk with
 | 0, _ | 1, _ | 2, _ | 3, _ | 4, _ | 5, _ | 6, _ | 7, _ | 8, _ | 9, _ => exact ⟨cell_of h rfl, cell_of h rfl, cell_of h rfl⟩
 | k + 10, hk => exact absurd hk (by omega)
theorem kindGo_le (s : ByteArray) : ∀ n k, kindGo s n k = 0 ∨ (k ≤ kindGo s n k ∧ kindGo s n k < k + n)
 | 0, k => .inl rfl
 | n + 1, k => by
  rw [kindGo]
  by_cases h : wordK k = s
  · rw [if_pos h]; exact .inr (by omega)
  · rw [if_neg h]
    rcases kindGo_le s n (k + 1) with h | h
    · exact .inl h
    · exact .inr (by omega)
theorem kindOf_lt (s : ByteArray) : kindOfO s < 10 := by
 rcases kindGo_le s 9 1 with h | h
 · unfold kindOfO; omega
 · unfold kindOfO; omega
set_option maxHeartbeats 800000 in
set_option maxRecDepth 1000000 in
theorem kindOf_any {w : World} (ht : KTab w) (s : ByteArray) :
  Calls Tryz.prog 158 #[.string s] w fun e w' => e = .returned (.tuple #[.int .u8 (kindOfO s : Int), .bool (kindOfO s != 0)]) ∧ w' = w := by
 have HT := Lib.hid ht
 clear ht
 go_enter Tryz.func158, Tryz.ntmps158
 go_wp2_with fail
 go_loopg [4] 9 (fun g v4 wr => ∃ k : Nat, k + g = 10 ∧ 1 ≤ k ∧ v4 = .int .u8 (k : Int) ∧ kindGo s (10 - k) k = kindOfO s ∧ wr = w)
 case atStart => exact ⟨1, by omega, by omega, rfl, rfl, rfl⟩
 case round =>
  obtain ⟨k, hk, hk1, rfl, hf, rfl⟩ := hrel
  have HF := Lib.hid hf; clear hf
  by_cases hk9 : k ≤ 9
  · have hki : (k : Int) ≤ 9 := by omega
    have hk0 : (1 : Int) ≤ k := by omega
    obtain ⟨c0, c1, c2⟩ := HT.out.row (k := k) (by omega)
    have HG : Hid (kindGo s (10 - k) k = if wordK k = s then k else kindGo s (9 - k) (k + 1)) := Lib.hid (by
     rw [show 10 - k = (9 - k) + 1 by omega, kindGo])
    obtain ⟨W, hW⟩ : ∃ W, wordK k = W := ⟨_, rfl⟩
    rw [hW] at c0 HG
    clear hW
    by_cases he : W = s
    · have he1 := se he
      have HE : Hid (kindOfO s = k) := Lib.hid (by rw [← HF.out, HG.out, if_pos he])
      have HE2 : Hid (Ending.returned (.tuple #[.int .u8 (k : Int), .bool true]) = .returned (.tuple #[.int .u8 (kindOfO s : Int), .bool (kindOfO s != 0)])) := Lib.hid (by
       rw [HE.out]; simp; omega)
      clear he
      go_wp2_with fail
      try rw [Exit.noGoto_ret]
      go_ret2
      exact ⟨HE2.out, rfl⟩
    · have he1 := sn he
      have HE : Hid (kindGo s (10 - (k + 1)) (k + 1) = kindOfO s) := Lib.hid (by rw [← HF.out, HG.out, if_neg he]; congr 1; omega)
      clear he
      go_wp2_with fail
      go_roundg (gk - 1)
      case rel => exact ⟨k + 1, by omega, by omega, by go_num, HE.out, rfl⟩
      case measure => omega
  · have hki : ¬ (k : Int) ≤ 9 := by omega
    have HE : Hid (Ending.returned (.tuple #[.int .u8 0, .bool false]) = .returned (.tuple #[.int .u8 (kindOfO s : Int), .bool (kindOfO s != 0)])) := Lib.hid (by
     rw [← HF.out, show 10 - k = 0 by omega]; rfl)
    go_wp2_with fail
    try rw [Exit.noGoto_ret]
    go_ret2
    exact ⟨HE.out, rfl⟩
def numV (o : Option Nat) : Value := .tuple #[.int .i64 ((o.getD 0 : Nat) : Int), .bool o.isSome]
theorem numGo_step {s : ByteArray} {most n pos : Nat} (hp : pos < s.size) : numGo most n (runesAt s pos) = if pos = most ∨ (Utf8.decode s pos).1 < 48 ∨ 57 < (Utf8.decode s pos).1 then none else numGo most (10 * n + ((Utf8.decode s pos).1 - 48)) (runesAt s (pos + (Utf8.decode s pos).2)) := by
 rw [runesAt_step s pos hp, numGo]
set_option maxHeartbeats 800000 in
set_option maxRecDepth 1000000 in
theorem number_any (s : ByteArray) (most : Nat) (hm : most ≤ 2) (w : World) :
  Calls Tryz.prog 120 #[.string s, .int .i64 (most : Int)] w fun e w' => e = .returned (numV (numO s most)) ∧ Below w.heap.size w w' := by
 go_enter Tryz.func120, Tryz.ntmps120
 go_wp2_with fail
 go_loopw [6] (fun u6 wr => ∃ (pos n : Nat), u6 = .int .i64 (n : Int) ∧ wr.heap[w.heap.size]? = some (.stringIter s pos) ∧ Below w.heap.size w wr ∧ numGo most n (runesAt s pos) = numO s most ∧ n ≤ 99 ∧ (pos ≤ 1 → n ≤ 9) ∧ (pos = 0 → n = 0) ∧ pos ≤ most) (fun _ wr => s.size - wr.iterPos w.heap.size)
 case atStart => exact ⟨0, 0, rfl, World.iter_heap w s 0, below_iter w s 0, rfl, by omega, fun _ => by omega, fun _ => rfl, Nat.zero_le _⟩
 case round =>
  obtain ⟨pos, n, rfl, hit, hb, hg, hn99, hn9, hn0, hpm⟩ := hrel
  have HG := Lib.hid hg; have HN := Lib.hid (And.intro hn9 hn0); clear hg hn9 hn0
  by_cases hp : pos < s.size
  · have hnx : ∀ ty, (Instr.next (.pointer (some ⟨w.heap.size, 0, none⟩)) true ty).run Tryz.prog wr = _ := fun ty => Lib.run_next_any_at wr w.heap.size s pos ty hit hp
    have hwd := width_pos s pos hp
    have HW := Lib.hid hit
    have HB2 := Lib.hid (Lib.below_iterAt hb (k := w.heap.size) (Nat.le_refl _) s (pos + (Utf8.decode s pos).2))
    have hit2 := Lib.hid (Lib.iterAt_heap wr w.heap.size s pos (pos + (Utf8.decode s pos).2) hit)
    have HS := Lib.hid (numGo_step (most := most) (n := n) hp)
    have HASC : Hid ((Utf8.decode s pos).1 < 128 → (Utf8.decode s pos).2 = 1) := Lib.hid (fun h => by
     by_cases ha : (s.get! pos).toNat < 128
     · unfold Utf8.decode
       simp only [Nat.add_zero]
       rw [if_pos ha]
     · have hbig := decodeN_big (s.size - pos) (s.get! pos).toNat (s.get! (pos + 1)).toNat (s.get! (pos + 2)).toNat (s.get! (pos + 3)).toNat (by omega)
       rw [← Lib.decode_at s pos] at hbig
       omega)
    obtain ⟨r, hr⟩ : ∃ r, (Utf8.decode s pos).1 = r := ⟨_, rfl⟩
    obtain ⟨wd, hwd2⟩ : ∃ wd, (Utf8.decode s pos).2 = wd := ⟨_, rfl⟩
    have HRL : Hid (r ≤ 1114111) := Lib.hid (by
     have h1 := decode_step_ok s s.size pos (pos, (Utf8.decode s pos).1) (by have h2 := runesAt_step s pos hp; unfold runesAt at h2; rw [h2]; simp)
     simp only [hr] at h1
     unfold okR at h1
     omega)
    rw [hr] at hnx HS HASC
    rw [hwd2] at hnx HB2 hit2 HS HASC
    rw [hwd2] at hwd
    clear hit hb
    by_cases hend : pos = most ∨ r < 48 ∨ 57 < r
    · have HE : Hid (Ending.returned (.tuple #[.int .i64 0, .bool false]) = .returned (numV (numO s most))) := Lib.hid (by
       rw [← HG.out, HS.out, if_pos hend]; rfl)
      by_cases h1 : pos = most
      · have h1' : ((pos : Int) == (most : Int)) = true := by simp [h1]
        clear hend h1 hwd2 hr
        go_wp2_with fail
        try rw [Exit.noGoto_ret]
        go_ret2
        exact ⟨HE.out, HB2.out⟩
      · have h1' : ((pos : Int) == (most : Int)) = false := by simp; omega
        by_cases h2 : r < 48
        · have h2' : (r : Int) < 48 := by omega
          clear hend h1 hwd2 hr h2
          go_wp2_with fail
          try rw [Exit.noGoto_ret]
          go_ret2
          exact ⟨HE.out, HB2.out⟩
        · have h2' : ¬ (r : Int) < 48 := by omega
          have h3 : (57 : Int) < (r : Int) := by omega
          clear hend h1 hwd2 hr h2
          go_wp2_with fail
          try rw [Exit.noGoto_ret]
          go_ret2
          exact ⟨HE.out, HB2.out⟩
    · have h1 : ¬ pos = most := fun h => hend (.inl h)
      have h1' : ((pos : Int) == (most : Int)) = false := by simp; omega
      have h2 : ¬ r < 48 := fun h => hend (.inr (.inl h))
      have h3 : ¬ 57 < r := fun h => hend (.inr (.inr h))
      have h2' : ¬ (r : Int) < 48 := by omega
      have h3' : ¬ (57 : Int) < (r : Int) := by omega
      have hw1 : wd = 1 := HASC.out (by omega)
      have hn9 : n ≤ 9 := HN.out.1 (by omega)
      have HE : Hid (numGo most (10 * n + (r - 48)) (runesAt s (pos + wd)) = numO s most) := Lib.hid (by rw [← HG.out, HS.out, if_neg hend])
      have HREL : Hid (10 * n + (r - 48) ≤ 99 ∧ (pos + wd ≤ 1 → 10 * n + (r - 48) ≤ 9) ∧ (pos + wd = 0 → 10 * n + (r - 48) = 0) ∧ pos + wd ≤ most) := Lib.hid (by
       have := HN.out.2
       refine ⟨by omega, fun h => ?_, fun h => by omega, by omega⟩
       have := this (by omega)
       omega)
      have HV : Hid ((10 : Int) * n + ((r : Int) - 48) = ((10 * n + (r - 48) : Nat) : Int)) := Lib.hid (by omega)
      have hb1 : (0 : Int) ≤ (r : Int) - 48 := by omega
      have hb2 : (r : Int) - 48 ≤ 9 := by omega
      have hb3 : (n : Int) ≤ 9 := by omega
      clear hend hwd2 hr h1 h2 h3
      subst hw1
      go_wp2_with fail
      go_roundw
      case rel => exact ⟨pos + 1, 10 * n + (r - 48), by rw [← HV.out], hit2.out, HB2.out, HE.out, HREL.out.1, HREL.out.2.1, HREL.out.2.2.1, HREL.out.2.2.2⟩
      case measure => simp only [World.iterPos, hit2.out, HW.out] <;> omega
  · have hnx : ∀ ty, (Instr.next (.pointer (some ⟨w.heap.size, 0, none⟩)) true ty).run Tryz.prog wr = _ := fun ty => Lib.run_next_end_at wr w.heap.size s pos ty hit hp
    have HE : Hid (Ending.returned (.tuple #[.int .i64 (n : Int), .bool true]) = .returned (numV (numO s most))) := Lib.hid (by
     rw [← HG.out, runesAt_end s pos hp]; rfl)
    have HB := Lib.hid hb
    go_wp2_with fail
    try rw [Exit.noGoto_ret]
    go_ret2
    exact ⟨HE.out, HB.out⟩
end
section
open Go.RowKit nam exp jb
theorem trim_any (s : ByteArray) (hs : s.size ≤ 1000000) (w : World) : Calls Tryz.prog 71 #[.string s, .string ⟨#[32, 9]⟩] w fun e w' => e = .returned (.string (ba (Lib.trimS s.data.toList [32, 9]))) ∧ Below w.heap.size w w' :=
 Any.strings_Trim_laid Tryz.lays160 (by kernel_rfl) s ⟨#[32, 9]⟩ w (by omega) (by decide) (ascii_of_all (by decide))
theorem trimLeft_any (s : ByteArray) (w : World) : Calls Tryz.prog 119 #[.string s, .string ⟨#[32, 9]⟩] w fun e w' => e = .returned (.string (ba (Lib.trimLeftS s.data.toList [32, 9]))) ∧ Below w.heap.size w w' :=
 Any.strings_TrimLeft_laid Tryz.lays161 (by kernel_rfl) s ⟨#[32, 9]⟩ w (by decide) (ascii_of_all (by decide))
theorem bdN (w : World) (n : Nat) : Below w.heap.size w (w.drewN n) := ⟨rfl, rfl, rfl, Nat.le_refl _, fun _ _ => rfl⟩
def cutV (s : ByteArray) : Value := .tuple #[.string (cutO s).1, .string (cutO s).2.1, .bool (cutO s).2.2]
theorem indexByte_lt : ∀ (l : List UInt8) (c : UInt8), 0 ≤ Lib.indexByte l c → Lib.indexByte l c < l.length
 | [], c, h => by simp [Lib.indexByte] at h
 | b :: l, c, h => by
  rw [Lib.indexByte] at h ⊢
  by_cases h1 : (b == c) = true
  · rw [if_pos h1]; simp
  · rw [if_neg h1] at h ⊢
    by_cases h2 : (Lib.indexByte l c == -1) = true
    · rw [if_pos h2] at h; omega
    · rw [if_neg h2] at h ⊢
      have h3 : 0 ≤ Lib.indexByte l c ∨ Lib.indexByte l c = -1 := by omega
      rcases h3 with h3 | h3
      · have := indexByte_lt l c h3
        rw [List.length_cons]; omega
      · exact absurd (by simp [h3]) h2
set_option maxHeartbeats 800000 in
set_option maxRecDepth 1000000 in
theorem liteCut_any (s : ByteArray) (hs : s.size ≤ 1000000) (w : World) :
  Calls Tryz.prog 114 #[.string s, .string ⟨#[58]⟩] w fun e w' => e = .returned (cutV s) ∧ Below w.heap.size w w' := by
 have HI := Lib.hid (Tryz.stringslite_Index_one s 58)
 obtain ⟨i, hi⟩ : ∃ i, Lib.indexByte s.data.toList 58 = i := ⟨_, rfl⟩
 have hlt := indexByte_lt s.data.toList 58
 have hl : s.data.toList.length = s.size := by rw [Array.length_toList]; rfl
 rw [hi, hl] at hlt
 rw [hi] at HI
 clear hl
 by_cases h0 : 0 ≤ i
 · obtain ⟨n, rfl⟩ : ∃ n : Nat, i = n := ⟨i.toNat, by omega⟩
   have hn := hlt h0
   have HE : Hid (Ending.returned (.tuple #[.string (s.extract 0 n), .string (s.extract (n + 1) s.size), .bool true]) = .returned (cutV s)) := Lib.hid (by
    unfold cutV cutO; rw [hi, if_pos h0]; simp)
   have h1 : (n : Int) + 1 ≤ (s.size : Int) := by omega
   have h2 : (n : Int) ≤ (s.size : Int) := by omega
   clear hi hlt
   go_enter Tryz.func114, Tryz.ntmps114
   go_wp2_with fail
   refine (HI.out _).mono ?_
   rintro e w1 ⟨rfl, rfl⟩
   go_wp2_with fail
   go_quiet (fail)
   go_wp2_with fail
   go_ret3
   exact ⟨HE.out, bdN _ _⟩
 · have HE : Hid (Ending.returned (.tuple #[.string s, .string ⟨#[]⟩, .bool false]) = .returned (cutV s)) := Lib.hid (by
    unfold cutV cutO; rw [hi, if_neg h0])
   clear hi hlt
   go_enter Tryz.func114, Tryz.ntmps114
   go_wp2_with fail
   refine (HI.out _).mono ?_
   rintro e w1 ⟨rfl, rfl⟩
   go_wp2_with fail
   go_ret3
   exact ⟨HE.out, Below.refl _ _⟩
set_option maxRecDepth 1000000 in
theorem cut_any (s : ByteArray) (hs : s.size ≤ 1000000) (w : World) :
  Calls Tryz.prog 72 #[.string s, .string ⟨#[58]⟩] w fun e w' => e = .returned (cutV s) ∧ Below w.heap.size w w' := by
 have HC := Lib.hid (liteCut_any s hs w)
 unfold cutV at HC ⊢
 obtain ⟨a, ha⟩ : ∃ a, (cutO s).1 = a := ⟨_, rfl⟩
 obtain ⟨b, hb⟩ : ∃ b, (cutO s).2.1 = b := ⟨_, rfl⟩
 obtain ⟨c, hc⟩ : ∃ c, (cutO s).2.2 = c := ⟨_, rfl⟩
 rw [ha, hb, hc] at HC ⊢
 clear ha hb hc
 go_enter Tryz.func72, Tryz.ntmps72
 go_wp2_with fail
 refine HC.out.mono ?_
 rintro e w1 ⟨rfl, hb1⟩
 have HB1 := Lib.hid hb1; clear hb1
 go_wp2_with fail
 go_ret3
 exact ⟨rfl, HB1.out⟩
set_option maxRecDepth 1000000 in
theorem silent_any (s : ByteArray) (hs : s.size ≤ 1000000) (w : World) :
  Calls Tryz.prog 44 #[.string s] w fun e w' => e = .returned (.bool (silentB s)) ∧ Below w.heap.size w w' := by
 have HP := Lib.hid (Tryz.strings_HasPrefix s ⟨#[35]⟩ w)
 have HT := Lib.hid (trim_any s hs w)
 obtain ⟨p, hp⟩ : ∃ p, Lib.hasPrefix s.data.toList [35] = p := ⟨_, rfl⟩
 have hp' : Lib.hasPrefix s.data.toList (⟨#[35]⟩ : ByteArray).data.toList = p := hp
 rw [hp'] at HP
 obtain ⟨T, hT⟩ : ∃ T, ba (Lib.trimS s.data.toList [32, 9]) = T := ⟨_, rfl⟩
 rw [hT] at HT
 have HS : Hid (silentB s = (p || decide (T = ⟨#[]⟩))) := Lib.hid (by
  unfold silentB
  rw [hp]
  congr 1
  rw [← hT, Bool.eq_iff_iff, decide_eq_true_eq, List.isEmpty_iff]
  constructor
  · intro h; rw [h]; rfl
  · intro h
    have := congrArg (fun b : ByteArray => b.data.toList) h
    simpa [ba] using this)
 rw [HS.out]
 clear hp hp' hT HS
 cases p with
 | true =>
  go_enter Tryz.func44, Tryz.ntmps44
  go_wp2_with fail
  refine HP.out.mono ?_
  rintro e w1 ⟨rfl, rfl⟩
  go_wp2_with fail
  go_ret
  exact ⟨ret_bool (by simp), Below.refl _ _⟩
 | false =>
  by_cases hT : T = ⟨#[]⟩
  · have h1 : (T.toList == []) = true := lex.str_eq (l := []) hT
    have h2 : Hid (Ending.returned (.bool true) = .returned (.bool (false || decide (T = ⟨#[]⟩)))) := Lib.hid (by simp [hT])
    clear hT
    go_enter Tryz.func44, Tryz.ntmps44
    go_wp2_with fail
    refine HP.out.mono ?_
    rintro e w1 ⟨rfl, rfl⟩
    go_wp2_with fail
    refine HT.out.mono ?_
    rintro e w1 ⟨rfl, hb1⟩
    have HB1 := Lib.hid hb1; clear hb1
    go_wp2_with fail
    go_ret
    exact ⟨h2.out, HB1.out⟩
  · have h1 : (T.toList == []) = false := lex.str_ne (l := []) hT
    have h2 : Hid (Ending.returned (.bool false) = .returned (.bool (false || decide (T = ⟨#[]⟩)))) := Lib.hid (by simp [hT])
    clear hT
    go_enter Tryz.func44, Tryz.ntmps44
    go_wp2_with fail
    refine HP.out.mono ?_
    rintro e w1 ⟨rfl, rfl⟩
    go_wp2_with fail
    refine HT.out.mono ?_
    rintro e w1 ⟨rfl, hb1⟩
    have HB1 := Lib.hid hb1; clear hb1
    go_wp2_with fail
    go_ret
    exact ⟨h2.out, HB1.out⟩
def LinesPost (s : ByteArray) (w : World) (e : Ending) (w' : World) : Prop :=
 ∃ v, e = .returned v ∧ w'.ownsRow w.heap.size 9 1 v (linesO s).length ((linesO s).map Value.string) ∧ Below w.heap.size w w'
def LinesRel (s : ByteArray) (w : World) (u3 u4 : Value) (wr : World) : Prop :=
 ∃ pos b acc, wr.heap[w.heap.size]? = some (.stringIter s pos) ∧ wr.ownsRow w.heap.size 9 1 u3 acc.length (acc.map Value.string) ∧ u4 = .int .i64 (b : Nat) ∧ Below w.heap.size w wr ∧
  linesGo s b acc (runesAt s pos) = linesO s ∧ acc.length + (runesAt s pos).length ≤ s.size ∧ b ≤ pos ∧ b ≤ s.size
theorem lines_on {s : ByteArray} {w wr : World} {u3 : Value} {pos b : Nat} {acc : List ByteArray} (hp : pos < s.size)
  (hit : wr.heap[w.heap.size]? = some (.stringIter s pos)) (h3 : wr.ownsRow w.heap.size 9 1 u3 acc.length (acc.map Value.string)) (hb : Below w.heap.size w wr)
  (hg : linesGo s b acc (runesAt s pos) = linesO s) (hl : acc.length + (runesAt s pos).length ≤ s.size) (hbp : b ≤ pos) (hr : (Utf8.decode s pos).1 ≠ 10) :
  LinesRel s w u3 (.int .i64 b) (wr.iterAt w.heap.size s (pos + (Utf8.decode s pos).2)) ∧ (wr.iterAt w.heap.size s (pos + (Utf8.decode s pos).2)).heap[w.heap.size]? = some (.stringIter s (pos + (Utf8.decode s pos).2)) := by
 have hit2 := Lib.iterAt_heap wr w.heap.size s pos (pos + (Utf8.decode s pos).2) hit
 have hwd := width_pos s pos hp
 rw [runesAt_step s pos hp] at hg hl
 rw [List.length_cons] at hl
 rw [linesGo, if_neg hr] at hg
 exact ⟨⟨_, b, acc, hit2, own_iterAt h3 hit _, rfl, Lib.below_iterAt hb (Nat.le_refl _) s _, hg, by omega, by omega, by omega⟩, hit2⟩
theorem lines_more {s : ByteArray} {w wr w1 : World} {u3 v3 : Value} {pos b : Nat} {acc : List ByteArray} (hp : pos < s.size)
  (hit : wr.heap[w.heap.size]? = some (.stringIter s pos)) (h3 : wr.ownsRow w.heap.size 9 1 u3 acc.length (acc.map Value.string)) (hb : Below w.heap.size w wr)
  (hg : linesGo s b acc (runesAt s pos) = linesO s) (hl : acc.length + (runesAt s pos).length ≤ s.size) (hbp : b ≤ pos) (hr : (Utf8.decode s pos).1 = 10)
  (k3 : w1.ownsRow w.heap.size 9 1 v3 (acc.length + 1) (acc.map Value.string ++ [.string (s.extract b pos)]))
  (g3 : ((wr.iterAt w.heap.size s (pos + (Utf8.decode s pos).2)).alloc (.cells #[.string (s.extract b pos)] 9)).grownBy w1 u3.ownBlock) :
  LinesRel s w v3 (.int .i64 ((pos + 1 : Nat) : Int)) w1 ∧ w1.heap[w.heap.size]? = some (.stringIter s (pos + (Utf8.decode s pos).2)) := by
 have hsz : w.heap.size < wr.heap.size := (Array.getElem?_eq_some_iff.1 hit).1
 have hit2 := Lib.iterAt_heap wr w.heap.size s pos (pos + (Utf8.decode s pos).2) hit
 have hsz2 : (wr.iterAt w.heap.size s (pos + (Utf8.decode s pos).2)).heap.size = wr.heap.size := Lib.iterAt_size _ _ _ _
 have h4b := own_iterAt h3 hit (pos + (Utf8.decode s pos).2)
 have hwd := width_pos s pos hp
 have hit3 : w1.heap[w.heap.size]? = some (.stringIter s (pos + (Utf8.decode s pos).2)) := by
  rw [g3.block w.heap.size (by simp; omega) (own_ne_iter h4b hit2), Below.heap_alloc _ _ _ (by omega)]
  exact hit2
 have hb2 := Lib.below_iterAt hb (k := w.heap.size) (Nat.le_refl _) s (pos + (Utf8.decode s pos).2)
 have hb3 : Below w.heap.size w w1 := (hb2.alloc (by omega) _).grown g3 (by simp; omega) (fun j hj => (h3.lt j hj).1)
 rw [runesAt_step s pos hp] at hg hl
 rw [List.length_cons] at hl
 rw [linesGo, if_pos hr] at hg
 exact ⟨⟨_, pos + 1, acc ++ [s.extract b pos], hit3, by simpa using k3, rfl, hb3, hg, by simp; omega, by omega, by omega⟩, hit3⟩
theorem lines_end {s : ByteArray} {pos b : Nat} {acc : List ByteArray} (hp : ¬ pos < s.size) (hg : linesGo s b acc (runesAt s pos) = linesO s) : linesO s = acc ++ [s.extract b s.size] := by
 rw [runesAt_end s pos hp] at hg
 rw [← hg]; rfl
set_option maxHeartbeats 1600000 in
set_option maxRecDepth 1000000 in
theorem lines_any (s : ByteArray) (hs : s.size ≤ 1000000) (w : World) : Calls Tryz.prog 43 #[.string s] w (LinesPost s w) := by
 obtain ⟨i0, hi, hz0, hz1, hz2⟩ := info_parts info9
 go_enter Tryz.func43, Tryz.ntmps43
 go_wp2
 go_loopw [3, 4] (fun u3 u4 wr => LinesRel s w u3 u4 wr) (fun _ _ wr => s.size - wr.iterPos w.heap.size)
 case atStart => exact ⟨0, 0, [], World.iter_heap w s 0, World.ownsRow_nil _ _ _ _, rfl, below_iter w s 0, rfl, by have := runesAt_length s 0; simpa using this, Nat.zero_le _, Nat.zero_le _⟩
 case round =>
  obtain ⟨pos, b, acc, hit, h3, rfl, hb, hg, hl, hbp, hbs⟩ := hrel
  have HG := Lib.hid hg; clear hg
  by_cases hp : pos < s.size
  · have hnx : ∀ ty, (Instr.next (.pointer (some ⟨w.heap.size, 0, none⟩)) true ty).run Tryz.prog wr = _ := fun ty => Lib.run_next_any_at wr w.heap.size s pos ty hit hp
    have hwd := width_pos s pos hp
    have HW := Lib.hid hit
    by_cases hr : (Utf8.decode s pos).1 = 10
    · have hbp' : (b : Int) ≤ (pos : Int) := by omega
      have hps : (pos : Int) ≤ (s.size : Int) := by omega
      have h4b := own_iterAt h3 hit (pos + (Utf8.decode s pos).2)
      have hsz : w.heap.size < wr.heap.size := (Array.getElem?_eq_some_iff.1 hit).1
      have HSZ : Hid (∀ o, w.heap.size ≤ ((wr.iterAt w.heap.size s (pos + (Utf8.decode s pos).2)).alloc o).heap.size) := Lib.hid (fun o => by
       rw [World.size_alloc, Lib.iterAt_size]; omega)
      have hr' : (((Utf8.decode s pos).1 : Int) == 10) = true := by rw [hr]; rfl
      have HR := Lib.hid hr; clear hr
      go_wp2_with (at_builtin; refine wpList_append_own _ rfl (.tmp 15) (.tmp 20) 106 rfl w.heap.size 9 i0 (.string ⟨#[]⟩) 1 16 Tryz.underlying106 hi hz0 hz1 hz2 rfl (by decide) _ _ _ rfl (h4b.alloc _) ⟨_, 0, none⟩ 1 1 [.string (s.extract b pos)] rfl rfl (cell_one_new _ _ _) (by simp [Value.oneCell']) (by unfold maxLen; omega) (by omega) (HSZ.out _) ?_)
      intro v3 w1 k3 g3 _
      have HM := Lib.hid (lines_more hp hit h3 hb HG.out hl hbp HR.out k3 g3)
      clear hit
      go_wp2
      go_roundw
      case rel => exact HM.out.1
      case measure => simp only [World.iterPos, HM.out.2, HW.out]; omega
    · have hr' : (((Utf8.decode s pos).1 : Int) == 10) = false := by simp; omega
      have HM := Lib.hid (lines_on hp hit h3 hb HG.out hl hbp hr)
      clear hit hr
      go_wp2_with fail
      go_roundw
      case rel => exact HM.out.1
      case measure => simp only [World.iterPos, HM.out.2, HW.out]; omega
  · have hnx : ∀ ty, (Instr.next (.pointer (some ⟨w.heap.size, 0, none⟩)) true ty).run Tryz.prog wr = _ := fun ty => Lib.run_next_end_at wr w.heap.size s pos ty hit hp
    have hsz : w.heap.size < wr.heap.size := (Array.getElem?_eq_some_iff.1 hit).1
    have HE := Lib.hid (lines_end hp HG.out)
    have hbs' : (b : Int) ≤ (s.size : Int) := by omega
    have HSZ : Hid (∀ o, w.heap.size ≤ (wr.alloc o).heap.size) := Lib.hid (fun o => by rw [World.size_alloc]; omega)
    go_wp2_with (at_builtin; refine wpList_append_own _ rfl (.tmp 24) (.tmp 28) 106 rfl w.heap.size 9 i0 (.string ⟨#[]⟩) 1 16 Tryz.underlying106 hi hz0 hz1 hz2 rfl (by decide) _ _ _ rfl (h3.alloc _) ⟨_, 0, none⟩ 1 1 [.string (s.extract b s.size)] rfl rfl (cell_one_new _ _ _) (by simp [Value.oneCell']) (by unfold maxLen; omega) (by omega) (HSZ.out _) ?_)
    intro v3 w1 k3 g3 _
    have hb3 : Below w.heap.size w w1 := (hb.alloc (by omega) _).grown g3 (HSZ.out _) (fun j hj => (h3.lt j hj).1)
    go_wp2
    go_ret
    exact ⟨_, rfl, by rw [HE.out]; simpa using k3, hb3⟩
end
section
open Go.RowKit nam exp jb
def SRow (w : World) (v : Value) (l : List ByteArray) : Prop :=
 ∃ a c, v = .slice a l.length c ∧ l.length ≤ c ∧ (0 < l.length → ∃ b o, a = some ⟨b, o, none⟩ ∧ b < w.heap.size ∧ ∀ i (h : i < l.length), w.cell? ⟨b, o + i, none⟩ = some (.string l[i]))
theorem SRow.on {w w' : World} {v : Value} {l : List ByteArray} (h : SRow w v l) (hb : Below w.heap.size w w') : SRow w' v l := by
 obtain ⟨a, c, h1, hc, h2⟩ := h
 refine ⟨a, c, h1, hc, fun hl => ?_⟩
 obtain ⟨b, o, h3, h4, h5⟩ := h2 hl
 exact ⟨b, o, h3, by have := hb.size; omega, fun i hi => (hb.cell (p := ⟨b, o + i, none⟩) h4).trans (h5 i hi)⟩
theorem SRow.nil (w : World) : SRow w (.slice none 0 0) [] := ⟨none, 0, rfl, Nat.le_refl _, fun h => by simp at h⟩
theorem SRow.take {w : World} {b o n c : Nat} {l : List ByteArray} (h : SRow w (.slice (some ⟨b, o, none⟩) n c) l) {k : Nat} (hk : k ≤ l.length) : SRow w (.slice (some ⟨b, o, none⟩) k c) (l.take k) := by
 obtain ⟨a', c', h1, h0, h2⟩ := h
 obtain ⟨rfl, rfl, rfl⟩ : some ⟨b, o, none⟩ = a' ∧ n = l.length ∧ c = c' := by simpa using h1
 have hlen : (l.take k).length = k := by rw [List.length_take]; omega
 refine ⟨_, c, by rw [hlen], by omega, fun hl => ?_⟩
 obtain ⟨b', o', h3, h4, h5⟩ := h2 (by omega)
 exact ⟨b', o', h3, h4, fun i hi => by
  rw [List.getElem_take]
  exact h5 i (by omega)⟩
theorem SRow.drop {w : World} {b o n c : Nat} {l : List ByteArray} (h : SRow w (.slice (some ⟨b, o, none⟩) n c) l) {k : Nat} (hk : k ≤ l.length) : SRow w (.slice (some ⟨b, o + k, none⟩) (n - k) (c - k)) (l.drop k) := by
 obtain ⟨a', c', h1, h0, h2⟩ := h
 obtain ⟨rfl, rfl, rfl⟩ : some ⟨b, o, none⟩ = a' ∧ n = l.length ∧ c = c' := by simpa using h1
 have hlen : (l.drop k).length = l.length - k := List.length_drop
 refine ⟨_, c - k, by rw [hlen], by omega, fun hl => ?_⟩
 obtain ⟨b', o', h3, h4, h5⟩ := h2 (by omega)
 simp only [Option.some.injEq, Addr.mk.injEq, and_true] at h3
 obtain ⟨rfl, rfl⟩ := h3
 exact ⟨b, o + k, rfl, h4, fun i hi => by
  rw [List.getElem_drop, Nat.add_assoc]
  exact h5 (k + i) (by omega)⟩
theorem SRow.own {w : World} {B : Nat} {v : Value} {l : List ByteArray} (h : w.ownsRow B 9 1 v l.length (l.map Value.string)) : SRow w v l := by
 rcases own_cases h with ⟨rfl, h0⟩ | ⟨g, cap, rfl, h1, h2, _, hlt, hc⟩
 · exact ⟨none, 0, by rw [h0], by omega, fun h => by omega⟩
 · exact ⟨_, cap, rfl, h1, fun _ => ⟨g, 0, rfl, hlt, fun i hi => by
    rw [Nat.zero_add]
    exact hc i _ (by rw [List.getElem?_map, List.getElem?_eq_getElem hi]; rfl)⟩⟩
def CutPost (us : List ByteArray) (w0 w : World) (e : Ending) (w' : World) : Prop :=
 ∃ a c, e = .returned (.tuple #[.slice a (cutF us).1.length c, .int .i64 ((cutF us).2.1 : Int), .bool (cutF us).2.2]) ∧ SRow w0 (.slice a (cutF us).1.length c) (cutF us).1 ∧ Below w.heap.size w w'
set_option maxHeartbeats 800000 in
set_option maxRecDepth 1000000 in
theorem cutNumber_any {w0 w : World} {v : Value} {us : List ByteArray} (h : SRow w0 v us) (hb : Below w0.heap.size w0 w) (hl : us.length ≤ 1000) :
  Calls Tryz.prog 159 #[v] w (CutPost us w0 w) := by
 have HS := Lib.hid h
 obtain ⟨a, c, rfl, hc, h2⟩ := h.on hb
 clear hb h
 by_cases h0 : us.length = 0
 · have HE : Hid (CutPost us w0 w (.returned (.tuple #[.slice none 0 0, .int .i64 0, .bool false])) w) := Lib.hid (by
    unfold CutPost cutF
    rw [if_pos h0]
    exact ⟨none, 0, rfl, SRow.nil w0, Below.refl _ _⟩)
   rw [h0]
   clear h2 hc HS
   go_enter Tryz.func159, Tryz.ntmps159
   go_wp2_with fail
   go_ret3
   exact HE.out
 · obtain ⟨m, hm⟩ : ∃ m, us.length = m + 1 := ⟨us.length - 1, by omega⟩
   obtain ⟨b, o, rfl, hlt, hcs⟩ := h2 (by omega)
   have hcm := hcs m (by omega)
   obtain ⟨u, hu⟩ : ∃ u, us[m]'(by omega) = u := ⟨_, rfl⟩
   rw [hu] at hcm
   have hlast : lastW us = u := by
    unfold lastW
    rw [List.getLast?_eq_getElem?, hm, show m + 1 - 1 = m by omega, List.getElem?_eq_getElem (by omega), hu]; rfl
   have HC : Hid (cutF us = (us.take m, (numO u 2).getD 0, (numO u 2).isSome)) := Lib.hid (by
    unfold cutF; rw [if_neg h0, hlast, hm]; rfl)
   have HT := Lib.hid (HS.out.take (k := m) (by omega))
   have HLT : Hid ((us.take m).length = m) := Lib.hid (by rw [List.length_take]; omega)
   have HN := Lib.hid (number_any u 2 (by omega) w)
   unfold numV at HN
   obtain ⟨q, hq⟩ : ∃ q, (numO u 2).getD 0 = q := ⟨_, rfl⟩
   obtain ⟨k, hk⟩ : ∃ k, (numO u 2).isSome = k := ⟨_, rfl⟩
   rw [hq, hk] at HN HC
   have HE : Hid (∀ w', Below w.heap.size w w' → CutPost us w0 w (.returned (.tuple #[.slice (some ⟨b, o, none⟩) m c, .int .i64 (q : Int), .bool k])) w') := Lib.hid (fun w' hb => by
    unfold CutPost
    rw [HC.out]
    exact ⟨some ⟨b, o, none⟩, c, by simp only [HLT.out], by simp only [HLT.out]; exact HT.out, hb⟩)
   have hmc : (m : Int) ≤ (c : Int) := by omega
   have hmc2 : (m : Int) + 1 ≤ (c : Int) := by omega
   rw [hm]
   rw [hm] at hl
   clear hcs hu hlast hq hk HS HT HC HLT h0 hc h2 hm
   go_enter Tryz.func159, Tryz.ntmps159
   go_wp2_with fail
   refine HN.out.mono ?_
   rintro e w1 ⟨rfl, hb1⟩
   have HB1 := Lib.hid hb1; clear hb1
   go_wp2_with fail
   go_ret3
   exact HE.out _ HB1.out
end
section
open Go.RowKit nam exp jb
def ndCells (uid : ByteArray) (k : Nat) (vi : Value) (n : Int) : Array Value := #[.string uid, .int .u8 (k : Int), vi, .int .u8 0, .int .i64 0, .slice none 0 0, .int .i64 n]
def ToldAt (w wr : World) (N : Nat) (uid : ByteArray) (k : Nat) (n : Int) (vi : Value) (done : List Int) : Prop :=
 wr.heap[N]? = some (.cells (ndCells uid k vi n) 48 (0, 0)) ∧ wr.ownsRow w.heap.size 3 1 vi done.length (done.map intV) ∧ Below w.heap.size w wr ∧ w.heap.size ≤ N
section
variable {w wr w1 w2 : World} {N k : Nat} {uid : ByteArray} {n : Int} {vi v' : Value} {done : List Int}
theorem ToldAt.cells (h : ToldAt w wr N uid k n vi done) : wr.cell? ⟨N, 0, none⟩ = some (.string uid) ∧ wr.cell? ⟨N, 1, none⟩ = some (.int .u8 (k : Int)) ∧ wr.cell? ⟨N, 2, none⟩ = some vi ∧ wr.cell? ⟨N, 3, none⟩ = some (.int .u8 0) ∧
  wr.cell? ⟨N, 4, none⟩ = some (.int .i64 0) ∧ wr.cell? ⟨N, 5, none⟩ = some (.slice none 0 0) ∧ wr.cell? ⟨N, 6, none⟩ = some (.int .i64 n) ∧ (∀ j, wr.frozen? ⟨N, j, none⟩ = false) :=
 ⟨cell_of h.1 rfl, cell_of h.1 rfl, cell_of h.1 rfl, cell_of h.1 rfl, cell_of h.1 rfl, cell_of h.1 rfl, cell_of h.1 rfl, fun j => by simp [World.frozen?, h.1]⟩
theorem ToldAt.under (h : ToldAt w wr N uid k n vi done) (hb : Below wr.heap.size wr w1) : ToldAt w w1 N uid k n vi done :=
 ⟨(hb.block N (Array.getElem?_eq_some_iff.1 h.1).1).trans h.1, own_below' h.2.1 hb, h.2.2.1.trans (hb.mono h.2.2.1.size), h.2.2.2⟩
theorem own_setCell {W : World} {B e size m b j : Nat} {v z : Value} {xs : List Value} (h : W.ownsRow B e size v m xs) (hne : v.ownBlock ≠ some b) : (W.setCell ⟨b, j, none⟩ z).ownsRow B e size v m xs := by
 obtain ⟨h1, h2 | ⟨g, cap, cur, rfl, a1, a2, a3⟩⟩ := h
 · exact ⟨h1, .inl h2⟩
 · refine ⟨h1, .inr ⟨g, cap, cur, rfl, a1, ?_, a3⟩⟩
   have hgb : g ≠ b := fun e => hne (by simp [Value.ownBlock, e])
   rw [Below.heap_setCell _ _ _ _ hgb]
   exact a2
theorem setCell_heap {W : World} {b j : Nat} {z : Value} {cur : Array Value} {t : TypeId} {fr : Nat × Nat} (h : W.heap[b]? = some (.cells cur t fr)) : (W.setCell ⟨b, j, none⟩ z).heap[b]? = some (.cells (cur.setIfInBounds j z) t fr) := by
 unfold World.setCell
 simp only [Array.getElem?_modify, h, if_true, Option.map_some]
 rfl
theorem ToldAt.more {o : Obj} {x : Int} (h : ToldAt w wr N uid k n vi done) (hb : Below wr.heap.size wr w1)
  (k4 : w2.ownsRow w.heap.size 3 1 v' (done.length + 1) (done.map intV ++ [.int .i64 x])) (g4 : (w1.alloc o).grownBy w2 vi.ownBlock) : ToldAt w (w2.setCell ⟨N, 2, none⟩ v') N uid k n v' (done ++ [x]) := by
 have h1 := h.under hb
 obtain ⟨a1, a2, a3, a4⟩ := h1
 have hN := (Array.getElem?_eq_some_iff.1 a1).1
 have hne : vi.ownBlock ≠ some N := by
  intro e
  rcases a2.2 with ⟨rfl, _⟩ | ⟨g, cap, cur, rfl, _, hg, _⟩
  · simp [Value.ownBlock] at e
  · simp [Value.ownBlock] at e
    subst e
    rw [a1] at hg
    cases hg
 have hN2 : w2.heap[N]? = some (.cells (ndCells uid k vi n) 48 (0, 0)) := by
  rw [g4.block N (by rw [World.size_alloc]; omega) (fun e => hne e.symm), Below.heap_alloc _ _ _ hN]
  exact a1
 have hb2 : Below w.heap.size w w2 := (a3.alloc a3.size _).grown g4 (by rw [World.size_alloc]; have := a3.size; omega) (fun j hj => (h.2.1.lt j hj).1)
 have hne2 : v'.ownBlock ≠ some N := by
  intro e
  rcases k4.2 with ⟨rfl, _⟩ | ⟨g, cap, cur, rfl, _, hg, _⟩
  · simp [Value.ownBlock] at e
  · simp [Value.ownBlock] at e
    subst e
    rw [hN2] at hg
    cases hg
 exact ⟨setCell_heap hN2, by have := own_setCell (j := 2) (z := v') k4 hne2; simpa [intV] using this, hb2.setCell (p := ⟨N, 2, none⟩) a4 _, a4⟩
end
def ToldPost (l : List Nd) (ws : List ByteArray) (w : World) (e : Ending) (w' : World) : Prop :=
 ∃ vi, e = .returned (.tuple #[.agg (ndCells (toldF l ws).1.uid (toldF l ws).1.kind vi (toldF l ws).1.n), .bool (toldF l ws).2]) ∧
  w'.ownsRow w.heap.size 3 1 vi (toldF l ws).1.ins.length ((toldF l ws).1.ins.map intV) ∧ Below w.heap.size w w'
theorem told_short {l : List Nd} {ws : List ByteArray} (h : ws.length < 2) : toldF l ws = (⟨⟨#[]⟩, 0, [], Ex.zero, 0⟩, false) := by unfold toldF; rw [if_pos h]
theorem insO_snoc (l : List Nd) (us : List ByteArray) (k : Nat) (h : k < us.length) : insO l (us.take (k + 1)) = insO l (us.take k) ++ [findI l us[k]] := by
 unfold insO
 rw [List.take_succ_eq_append_getElem h, List.map_append]; rfl
theorem allB_snoc (l : List Nd) (us : List ByteArray) (k : Nat) (h : k < us.length) : allB l (us.take (k + 1)) = (allB l (us.take k) && decide (0 ≤ findI l us[k])) := by
 unfold allB
 rw [List.take_succ_eq_append_getElem h, List.all_append]; simp
end
end Go.Proofs.YtepdecnegihhhaaGreatDoor.sc

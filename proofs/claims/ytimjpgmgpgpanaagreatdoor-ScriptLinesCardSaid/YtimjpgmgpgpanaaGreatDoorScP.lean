/- Plain facts on scripts: their lines, what each tells, the job of all of them; lines that say nothing. No program's run in this file. -/
import Derived.Test.YtimjpgmgpgpanaaGreatDoorMJb
import Derived.Test.YtimjpgmgpgpanaaGreatDoorMNm
import Derived.Test.YtimjpgmgpgpanaaGreatDoorMEt
import Derived.Lib.DecodeN
import Derived.Lib.SlTrimSet
import Derived.Lib.Strings
import Derived.Lib.IndexMore
namespace Go.Proofs.YtimjpgmgpgpanaaGreatDoor.sc
set_option linter.unusedSimpArgs false
set_option linter.unusedVariables false
open nam exp jb

def ba (l : List UInt8) : ByteArray := ⟨l.toArray⟩
/-- The lines of the runes that are left, behind those that were told. -/
def linesGo (s : ByteArray) : Nat → List ByteArray → List (Nat × Nat) → List ByteArray
  | b, acc, [] => acc ++ [s.extract b s.size]
  | b, acc, (p, r) :: t => if r = 10 then linesGo s (p + 1) (acc ++ [s.extract b p]) t else linesGo s b acc t
def linesO (s : ByteArray) : List ByteArray := linesGo s 0 [] (runesAt s 0)
/-- The same by bytes. -/
def splitL : List UInt8 → List UInt8 → List (List UInt8)
  | cur, [] => [cur]
  | cur, c :: t => if c = 10 then cur :: splitL [] t else splitL (cur ++ [c]) t
theorem splitL_on : ∀ (bs cur rest : List UInt8), (∀ c ∈ bs, c ≠ 10) → splitL cur (bs ++ rest) = splitL (cur ++ bs) rest
  | [], cur, rest, _ => by simp
  | c :: bs, cur, rest, h => by
    rw [List.cons_append, splitL, if_neg (h c (by simp)), splitL_on bs (cur ++ [c]) rest (fun x hx => h x (List.mem_cons_of_mem _ hx)), List.append_assoc, List.singleton_append]
theorem splitL_cut (bs rest : List UInt8) (h : ∀ c ∈ bs, c ≠ 10) : splitL [] (bs ++ 10 :: rest) = bs :: splitL [] rest := by
  rw [splitL_on bs [] _ h, List.nil_append, splitL, if_pos rfl]
def seg (s : ByteArray) (b e : Nat) : List UInt8 := (s.data.toList.take e).drop b
theorem seg_ba (s : ByteArray) (b e : Nat) : ba (seg s b e) = s.extract b e := by
  unfold ba seg
  apply ByteArray.ext
  apply Array.ext'
  simp [ByteArray.data_extract, List.drop_take]
theorem decodeN_big (n b0 b1 b2 b3 : Nat) (h : 128 ≤ b0) : 128 ≤ (Lib.decodeN n b0 b1 b2 b3).1 := by
  unfold Lib.decodeN
  repeat' split
  all_goals (simp only; omega)
/-- What stands behind a rune's first byte goes on; a rune has four bytes at most. -/
theorem behind (n b0 b1 b2 b3 : Nat) : (2 ≤ (Lib.decodeN n b0 b1 b2 b3).2 → 128 ≤ b1 ∧ 1 < n) ∧ (3 ≤ (Lib.decodeN n b0 b1 b2 b3).2 → 128 ≤ b2 ∧ 2 < n) ∧ (4 ≤ (Lib.decodeN n b0 b1 b2 b3).2 → 128 ≤ b3 ∧ 3 < n) ∧ (Lib.decodeN n b0 b1 b2 b3).2 ≤ 4 := by
  unfold Lib.decodeN
  repeat' split
  all_goals (simp only; omega)
theorem get_list (s : ByteArray) (i : Nat) (h : i < s.size) : s.data.toList[i]? = some (s.get! i) := by
  have h1 : i < s.data.size := h
  have h2 : i < s.data.toList.length := by simpa using h1
  rw [List.getElem?_eq_getElem h2]
  congr 1
  rw [Array.getElem_toList]
  show s.data[i] = s.data[i]!
  rw [getElem!_pos s.data i h1]
theorem seg_on (s : ByteArray) (b p k : Nat) (hb : b ≤ p) (hk : p + k ≤ s.size) : seg s b (p + k) = seg s b p ++ (s.data.toList.drop p).take k := by
  unfold seg
  have hl : s.data.toList.length = s.size := by rw [Array.length_toList]; rfl
  rw [List.take_add, List.drop_append_of_le_length (by rw [List.length_take, hl]; omega)]
theorem lines_eq (s : ByteArray) : ∀ (f pos b : Nat) (acc : List ByteArray), s.size ≤ pos + f → pos ≤ s.size → b ≤ pos →
    linesGo s b acc (runesAt s pos) = acc ++ (splitL (seg s b pos) (s.data.toList.drop pos)).map ba
  | 0, pos, b, acc, h1, h2, h3 => by
    have hl : s.data.toList.length = s.size := by rw [Array.length_toList]; rfl
    have hp : pos = s.size := by omega
    rw [runesAt_end s pos (by omega), List.drop_eq_nil_of_le (by omega), hp, linesGo, splitL, List.map_singleton, seg_ba]
  | f + 1, pos, b, acc, h1, h2, h3 => by
    have hl : s.data.toList.length = s.size := by rw [Array.length_toList]; rfl
    by_cases hp : pos < s.size
    · rw [runesAt_step s pos hp]
      have hd : s.data.toList.drop pos = s.get! pos :: s.data.toList.drop (pos + 1) := by
        rw [List.drop_eq_getElem_cons (by omega : pos < s.data.toList.length)]
        have := get_list s pos hp
        rw [List.getElem?_eq_getElem (by omega)] at this
        rw [Option.some.inj this]
      by_cases ha : (s.get! pos).toNat < 128
      · have hda : Utf8.decode s pos = ((s.get! pos).toNat, 1) := by
          unfold Utf8.decode
          simp only [Nat.add_zero]
          rw [if_pos ha]
        rw [hda]
        simp only []
        by_cases h10 : s.get! pos = 10
        · rw [linesGo, if_pos (by rw [h10]; rfl), lines_eq s f (pos + 1) (pos + 1) _ (by omega) (by omega) (Nat.le_refl _), hd, splitL, if_pos h10, List.map_cons, seg_ba]
          have : seg s (pos + 1) (pos + 1) = [] := by unfold seg; rw [List.drop_eq_nil_of_le (by rw [List.length_take]; omega)]
          rw [this]
          simp
        · rw [linesGo, if_neg (fun h => h10 (UInt8.toNat_inj.1 (by rw [h]; rfl))), lines_eq s f (pos + 1) b _ (by omega) (by omega) (by omega), hd, splitL, if_neg h10, seg_on s b pos 1 h3 (by omega), hd]
          simp
      · have hN := Lib.decode_at s pos
        have hb0 : (s.get! pos).toNat < 256 := (s.get! pos).toNat_lt
        obtain ⟨c2, c3, c4, c5⟩ := behind (s.size - pos) (s.get! pos).toNat (s.get! (pos + 1)).toNat (s.get! (pos + 2)).toNat (s.get! (pos + 3)).toNat
        have hbig := decodeN_big (s.size - pos) (s.get! pos).toNat (s.get! (pos + 1)).toNat (s.get! (pos + 2)).toNat (s.get! (pos + 3)).toNat (by omega)
        rw [← hN] at c2 c3 c4 c5 hbig
        have hw := width_pos s pos hp
        obtain ⟨wd, hwd⟩ : ∃ wd, (Utf8.decode s pos).2 = wd := ⟨_, rfl⟩
        rw [hwd] at c2 c3 c4 c5 hw ⊢
        have hle : pos + wd ≤ s.size := by omega
        rw [linesGo, if_neg (by omega), lines_eq s f (pos + wd) b _ (by omega) hle (by omega), seg_on s b pos wd h3 hle]
        have hsp : s.data.toList.drop pos = (s.data.toList.drop pos).take wd ++ s.data.toList.drop (pos + wd) := by
          rw [← List.drop_drop, List.take_append_drop]
        have hno : ∀ c ∈ (s.data.toList.drop pos).take wd, c ≠ 10 := by
          intro c hc
          obtain ⟨j, hj, hjc⟩ := List.mem_iff_getElem.1 hc
          have hj2 : j < wd := by rw [List.length_take] at hj; omega
          have hg := get_list s (pos + j) (by omega)
          have hcj : c = s.get! (pos + j) := by
            rw [← hjc, List.getElem_take, List.getElem_drop]
            rw [List.getElem?_eq_getElem (by omega)] at hg
            exact Option.some.inj hg
          intro h10
          rw [h10] at hcj
          have h10n : (s.get! (pos + j)).toNat = 10 := by rw [← hcj]; rfl
          rcases (by omega : j = 0 ∨ j = 1 ∨ j = 2 ∨ j = 3) with rfl | rfl | rfl | rfl
          · rw [Nat.add_zero] at h10n; omega
          · have := (c2 (by omega)).1; omega
          · have := (c3 (by omega)).1; omega
          · have := (c4 (by omega)).1; omega
        conv => rhs; rw [hsp]
        rw [splitL_on _ _ _ hno]
    · have hp' : pos = s.size := by omega
      rw [runesAt_end s pos (by omega), List.drop_eq_nil_of_le (by omega), hp', linesGo, splitL, List.map_singleton, seg_ba]
theorem lines_split (s : ByteArray) : linesO s = (splitL [] s.data.toList).map ba := by
  unfold linesO
  rw [lines_eq s s.size 0 0 [] (by omega) (by omega) (Nat.le_refl _)]
  simp [seg]
/-- Lines put ahead. -/
def ahead (line : ByteArray) (n : Nat) (s : ByteArray) : ByteArray := ba ((List.replicate n (line.data.toList ++ [10])).flatten ++ s.data.toList)
theorem lines_ahead {line : ByteArray} (h : ∀ c ∈ line.data.toList, c ≠ 10) (s : ByteArray) : ∀ n, linesO (ahead line n s) = List.replicate n line ++ linesO s := by
  intro n
  rw [lines_split, lines_split]
  unfold ahead
  have e : (ba ((List.replicate n (line.data.toList ++ [10])).flatten ++ s.data.toList)).data.toList = (List.replicate n (line.data.toList ++ [10])).flatten ++ s.data.toList := by simp [ba]
  rw [e]
  clear e
  induction n with
  | zero => simp
  | succ n ih =>
    rw [List.replicate_succ, List.flatten_cons, List.append_assoc, List.append_assoc, List.singleton_append, splitL_cut _ _ h, List.map_cons, ih, List.replicate_succ, List.cons_append]
    congr 1

/-- Says a line nothing? -/
def silentB (l : ByteArray) : Bool := Lib.hasPrefix l.data.toList [35] || (Lib.trimS l.data.toList [32, 9]).isEmpty
/-- Ahead of the first colon; behind it; is there one? -/
def cutO (l : ByteArray) : ByteArray × ByteArray × Bool := if 0 ≤ Lib.indexByte l.data.toList 58 then (l.extract 0 (Lib.indexByte l.data.toList 58).toNat, l.extract ((Lib.indexByte l.data.toList 58).toNat + 1) l.size, true) else (l, ⟨#[]⟩, false)
/-- The number that the runes left tell, behind n. -/
def numGo (most : Nat) : Nat → List (Nat × Nat) → Option Nat
  | n, [] => some n
  | n, (p, r) :: t => if p = most ∨ r < 48 ∨ 57 < r then none else numGo most (10 * n + (r - 48)) t
def numO (s : ByteArray) (most : Nat) : Option Nat := numGo most 0 (runesAt s 0)
/-- A kind's word; whether its line tells N, X. -/
def words9 : List ByteArray := [⟨#[]⟩, ⟨#[115, 111, 117, 114, 99, 101]⟩, ⟨#[109, 97, 112]⟩, ⟨#[102, 105, 108, 116, 101, 114]⟩, ⟨#[102, 108, 97, 116]⟩, ⟨#[107, 101, 121]⟩, ⟨#[114, 101, 100, 117, 99, 101]⟩, ⟨#[119, 105, 110, 100, 111, 119]⟩, ⟨#[117, 110, 105, 111, 110]⟩, ⟨#[115, 105, 110, 107]⟩]
def wordK (k : Nat) : ByteArray := words9.getD k ⟨#[]⟩
def hasN (k : Nat) : Bool := k == 7
def hasX (k : Nat) : Bool := decide (2 ≤ k) && decide (k ≤ 6)
/-- The kind of a word, from k on, n of them; 0: none's. -/
def kindGo (s : ByteArray) : Nat → Nat → Nat
  | 0, _ => 0
  | n + 1, k => if wordK k = s then k else kindGo s n (k + 1)
def kindOfO (s : ByteArray) : Nat := kindGo s 9 1
/-- The places of the nodes of these Uids; is each one's a node's? -/
def insO (l : List Nd) (us : List ByteArray) : List Int := us.map (findI l)
def allB (l : List Nd) (us : List ByteArray) : Bool := us.all fun u => decide (0 ≤ findI l u)
def lastW (us : List ByteArray) : ByteArray := us.getLast?.getD ⟨#[]⟩
/-- Words ahead of the number at the end, and this. -/
def cutF (us : List ByteArray) : List ByteArray × Nat × Bool := if us.length = 0 then ([], 0, false) else (us.take (us.length - 1), (numO (lastW us) 2).getD 0, (numO (lastW us) 2).isSome)
/-- The node that words tell, without its X; are they as told? -/
def restF (ws : List ByteArray) : List ByteArray × Nat × Bool :=
  if hasN (kindOfO (ws.getD 1 ⟨#[]⟩)) then cutF (ws.drop 2) else (ws.drop 2, 0, kindOfO (ws.getD 1 ⟨#[]⟩) != 0)
def toldF (l : List Nd) (ws : List ByteArray) : Nd × Bool :=
  if ws.length < 2 then (⟨⟨#[]⟩, 0, [], Ex.zero, 0⟩, false) else
  (⟨ws.getD 0 ⟨#[]⟩, kindOfO (ws.getD 1 ⟨#[]⟩), insO l (restF ws).1, Ex.zero, ((restF ws).2.1 : Int)⟩, (restF ws).2.2 && allB l (restF ws).1)
/-- A node's line. -/
def nodeO (l : List Nd) (ws : List ByteArray) (text : ByteArray) (colon : Bool) : Except Int Nd :=
  if (toldF l ws).2 = false then .error 130
  else if colon != hasX (toldF l ws).1.kind then .error 130
  else if colon then
    (if (parseO (ba (Lib.trimLeftS text.data.toList [32, 9]))).2.2 ≠ 0 then .error (parseO (ba (Lib.trimLeftS text.data.toList [32, 9]))).2.2
     else .ok ⟨(toldF l ws).1.uid, (toldF l ws).1.kind, (toldF l ws).1.ins, (parseO (ba (Lib.trimLeftS text.data.toList [32, 9]))).1, (toldF l ws).1.n⟩)
  else .ok (toldF l ws).1
def parW : ByteArray := ⟨#[112, 97, 114]⟩
def parO (ws : List ByteArray) : Option Nat := match ws with
  | [p, n] => if p = parW then numO n 1 else none
  | _ => none
/-- What was read: Par, nodes, the numbers of the lines. -/
structure Rdr where
  par : Int
  nodes : List Nd
  said : List Int
def takeO (r : Rdr) (line : ByteArray) : Except Int (Int × List Nd) :=
  if (wordsO (cutO line).1).2 ≠ 0 then .error (wordsO (cutO line).1).2
  else if r.said.length = 0 then
    (if (cutO line).2.2 then .error 130 else match parO (wordsO (cutO line).1).1 with
      | none => .error 130
      | some n => .ok ((n : Int), r.nodes))
  else match nodeO r.nodes (wordsO (cutO line).1).1 (cutO line).2.1 (cutO line).2.2 with
    | .error e => .error e
    | .ok nd => .ok (r.par, r.nodes ++ [nd])
/-- Par, nodes, the line, the error. -/
abbrev Res := Int × List Nd × Int × Int
def wholeO (r : Rdr) : Res :=
  if r.said.length = 0 then (0, [], 0, 130)
  else if (mayO r.par r.nodes).2 = 0 then (r.par, r.nodes, 0, 0)
  else if (mayO r.par r.nodes).2 = 2 then (0, [], 0, 2)
  else (0, [], r.said.getD (1 + (mayO r.par r.nodes).1).toNat 0, (mayO r.par r.nodes).2)
def goO : List ByteArray → Nat → Rdr → Res
  | [], _, r => wholeO r
  | l :: t, i, r => if silentB l then goO t (i + 1) r else match takeO r l with
    | .error e => (0, [], ((i + 1 : Nat) : Int), e)
    | .ok (p, ns) => goO t (i + 1) ⟨p, ns, r.said ++ [((i + 1 : Nat) : Int)]⟩
def parseJ (s : ByteArray) : Res := if 65536 < s.size then (0, [], 0, 3) else goO (linesO s) 0 ⟨0, [], []⟩

/-! Lines that say nothing. -/
def shiftR (n : Nat) (r : Res) : Res := (r.1, r.2.1, (if 0 < r.2.2.1 then r.2.2.1 + n else r.2.2.1), r.2.2.2)
def shiftL (n : Nat) (l : List Int) : List Int := l.map (· + (n : Int))
theorem goO_silent {line : ByteArray} (h : silentB line = true) (r : Rdr) (t : List ByteArray) : ∀ n i, goO (List.replicate n line ++ t) i r = goO t (i + n) r
  | 0, i => by simp
  | n + 1, i => by
    rw [List.replicate_succ, List.cons_append, goO, if_pos h, goO_silent h r t n (i + 1)]
    congr 1; omega
theorem whole_shift (n : Nat) (r : Rdr) (hp : ∀ x ∈ r.said, 0 < x) : wholeO ⟨r.par, r.nodes, shiftL n r.said⟩ = shiftR n (wholeO r) := by
  have hl : (shiftL n r.said).length = r.said.length := by simp [shiftL]
  unfold wholeO
  simp only [hl]
  by_cases h0 : r.said.length = 0
  · rw [if_pos h0, if_pos h0]; rfl
  rw [if_neg h0, if_neg h0]
  by_cases h1 : (mayO r.par r.nodes).2 = 0
  · rw [if_pos h1, if_pos h1]; rfl
  rw [if_neg h1, if_neg h1]
  by_cases h2 : (mayO r.par r.nodes).2 = 2
  · rw [if_pos h2, if_pos h2]; rfl
  rw [if_neg h2, if_neg h2]
  unfold shiftR shiftL
  simp only [List.getD_eq_getElem?_getD, List.getElem?_map]
  cases hx : r.said[(1 + (mayO r.par r.nodes).1).toNat]? with
  | none => simp
  | some x =>
    have := hp x (List.mem_of_getElem? hx)
    simp [this]
theorem goO_shift (n : Nat) : ∀ (t : List ByteArray) (i : Nat) (r : Rdr), (∀ x ∈ r.said, 0 < x) → goO t (i + n) ⟨r.par, r.nodes, shiftL n r.said⟩ = shiftR n (goO t i r)
  | [], i, r, hp => by rw [goO, goO]; exact whole_shift n r hp
  | l :: t, i, r, hp => by
    rw [goO, goO]
    by_cases hs : silentB l = true
    · rw [if_pos hs, if_pos hs, show i + n + 1 = i + 1 + n by omega]
      exact goO_shift n t (i + 1) r hp
    · rw [if_neg hs, if_neg hs]
      have ht : takeO ⟨r.par, r.nodes, shiftL n r.said⟩ l = takeO r l := by
        unfold takeO
        simp only [show (shiftL n r.said).length = r.said.length by simp [shiftL]]
      rw [ht]
      cases hk : takeO r l with
      | error e =>
        simp only [shiftR]
        rw [if_pos (by omega)]
        congr 3
        omega
      | ok q =>
        obtain ⟨p, ns⟩ := q
        simp only []
        have := goO_shift n t (i + 1) ⟨p, ns, r.said ++ [((i + 1 : Nat) : Int)]⟩ (by
          intro x hx
          rcases List.mem_append.1 hx with h | h
          · exact hp x h
          · rw [List.mem_singleton.1 h]; omega)
        rw [← this]
        have e : shiftL n (r.said ++ [((i + 1 : Nat) : Int)]) = shiftL n r.said ++ [((i + n + 1 : Nat) : Int)] := by
          unfold shiftL; rw [List.map_append, List.map_singleton]; congr 2; push_cast; omega
        rw [e, show i + n + 1 = i + 1 + n by omega]
/-- The statement's text. -/
theorem parse_ahead {line s : ByteArray} {n : Nat} (h : ∀ c ∈ line.data.toList, c ≠ 10) (h35 : line.data.toList.head? = some 35) (hs : (ahead line n s).size ≤ 65536) (hs2 : s.size ≤ 65536) : parseJ (ahead line n s) = shiftR n (parseJ s) := by
  unfold parseJ
  rw [if_neg (by omega), if_neg (by omega), lines_ahead h]
  have hsl : silentB line = true := by
    unfold silentB Lib.hasPrefix
    cases hd : line.data.toList with
    | nil => rw [hd] at h35; cases h35
    | cons a t =>
      rw [hd] at h35
      cases h35
      rfl
  rw [goO_silent hsl]
  exact goO_shift n (linesO s) 0 ⟨0, [], []⟩ (by simp)
end Go.Proofs.YtimjpgmgpgpanaaGreatDoor.sc

/- What a disk is, plainly: its files, the changes since the last Sync, what a crash keeps. -/
import Derived.Lib.Hide
namespace Go.Proofs.Ytbnnbaoimidfnaa.dsk
set_option linter.unusedSimpArgs false
set_option linter.unusedVariables false

/-- What the files have: of each number below 16. -/
abbrev Files := Nat → ByteArray
def upd {α : Type} (f : Nat → α) (i : Nat) (x : α) : Nat → α := fun j => if j = i then x else f j
theorem upd_same {α : Type} (f : Nat → α) (i : Nat) (x : α) : upd f i x i = x := by simp [upd]
theorem upd_other {α : Type} (f : Nat → α) {i j : Nat} (x : α) (h : j ≠ i) : upd f i x j = f j := by simp [upd, h]

inductive Chg where
  | app (i : Nat) (s : ByteArray)
  | cut (i n : Nat)
  | mov (a b : Nat)

/-- n, or the next number to it from 0 to most. -/
def win (n : Int) (most : Nat) : Nat := (min (max n 0) (most : Int)).toNat
theorem win_le (n : Int) (most : Nat) : win n most ≤ most := by unfold win; omega
theorem win_int (n : Int) (most : Nat) : ((win n most : Nat) : Int) = min (max n 0) (most : Int) := by unfold win; omega
theorem win_full (most : Nat) : win (most : Int) most = most := by unfold win; omega

def empty : ByteArray := ⟨#[]⟩
def doIt (f : Files) : Chg → Files
  | .app i s => upd f i (f i ++ s)
  | .cut i n => upd f i ((f i).extract 0 n)
  | .mov a b => upd (upd f b (f a)) a empty
/-- Of an Append its first bytes; nothing of another change. -/
def part (f : Files) (c : Chg) (b : Int) : Files :=
  match c with
  | .app i s => upd f i (f i ++ s.extract 0 (win b s.size))
  | _ => f
def total (f : Files) : Nat := ((List.range 16).map fun i => (f i).size).sum
/-- May c be done where the files are f? -/
def ok (room : Nat) (f : Files) : Chg → Prop
  | .app i s => i < 16 ∧ total f + s.size ≤ room
  | .cut i n => i < 16 ∧ n ≤ (f i).size
  | .mov a b => a < 16 ∧ b < 16 ∧ a ≠ b
def okRun (room : Nat) (f : Files) : List Chg → Prop
  | [] => True
  | c :: l => ok room f c ∧ okRun room (doIt f c) l
def run (f : Files) (l : List Chg) : Files := l.foldl doIt f
theorem run_nil (f : Files) : run f [] = f := rfl
theorem run_cons (f : Files) (c : Chg) (l : List Chg) : run f (c :: l) = run (doIt f c) l := rfl
theorem run_append (f : Files) (l m : List Chg) : run f (l ++ m) = run (run f l) m := List.foldl_append
theorem run_snoc (f : Files) (l : List Chg) (c : Chg) : run f (l ++ [c]) = doIt (run f l) c := by rw [run_append]; rfl

theorem sum_range_upd (n i : Nat) (g : Nat → Nat) (x : Nat) (hi : i < n) : ((List.range n).map (upd g i x)).sum + g i = ((List.range n).map g).sum + x := by
  induction n with
  | zero => omega
  | succ n ih =>
    rw [List.range_succ, List.map_append, List.map_append, List.sum_append, List.sum_append]
    simp only [List.map_cons, List.map_nil, List.sum_cons, List.sum_nil, Nat.add_zero]
    by_cases h : i = n
    · subst h
      have : ((List.range i).map (upd g i x)) = (List.range i).map g := List.map_congr_left fun j hj => upd_other _ _ (by have := List.mem_range.1 hj; omega)
      rw [this, upd_same]; omega
    · have := ih (by omega)
      rw [upd_other _ _ (by omega)]; omega
theorem total_upd (f : Files) {i : Nat} (x : ByteArray) (hi : i < 16) : total (upd f i x) + (f i).size = total f + x.size := by
  have h := sum_range_upd 16 i (fun i => (f i).size) x.size hi
  have e : (fun j => (upd f i x j).size) = upd (fun i => (f i).size) i x.size := by
    funext j; unfold upd; split <;> rfl
  unfold total; rw [e]; exact h
theorem le_total (f : Files) {i : Nat} (hi : i < 16) : (f i).size ≤ total f := by
  have h := sum_range_upd 16 i (fun i => (f i).size) 0 hi
  unfold total; omega
theorem total_empty : total (fun _ => empty) = 0 := by decide
theorem extract_size {s : ByteArray} {n : Nat} (h : n ≤ s.size) : (s.extract 0 n).size = n := by rw [ByteArray.size_extract]; omega
theorem extract_whole (s : ByteArray) : s.extract 0 s.size = s := by
  apply ByteArray.ext; simp

theorem total_do {room : Nat} {f : Files} {c : Chg} (h : ok room f c) (ht : total f ≤ room) : total (doIt f c) ≤ room := by
  cases c with
  | app i s =>
    have := total_upd f (f i ++ s) h.1
    have h2 := h.2
    rw [ByteArray.size_append] at this
    show total (upd f i _) ≤ _; omega
  | cut i n =>
    have := total_upd f ((f i).extract 0 n) h.1
    rw [extract_size h.2] at this
    have h2 := h.2
    show total (upd f i _) ≤ _; omega
  | mov a b =>
    obtain ⟨ha, hb, hne⟩ := h
    have h1 := total_upd f (f a) hb
    have h2 := total_upd (upd f b (f a)) empty ha
    rw [upd_other _ _ hne] at h2
    show total (upd _ a _) ≤ _
    have : empty.size = 0 := rfl
    omega
theorem total_part {room : Nat} {f : Files} {c : Chg} (b : Int) (h : ok room f c) (ht : total f ≤ room) : total (part f c b) ≤ room := by
  cases c with
  | app i s =>
    have := total_upd f (f i ++ s.extract 0 (win b s.size)) h.1
    have h2 := h.2
    rw [ByteArray.size_append, extract_size (win_le _ _)] at this
    have := win_le b s.size
    show total (upd f i _) ≤ _; omega
  | cut i n => exact ht
  | mov a b => exact ht
theorem okRun_append {room : Nat} {f : Files} {l m : List Chg} : okRun room f (l ++ m) ↔ okRun room f l ∧ okRun room (run f l) m := by
  induction l generalizing f with
  | nil => simp [okRun, run_nil]
  | cons c l ih => rw [List.cons_append, okRun, okRun, ih, run_cons]; exact ⟨fun ⟨a, b, c⟩ => ⟨⟨a, b⟩, c⟩, fun ⟨⟨a, b⟩, c⟩ => ⟨a, b, c⟩⟩
theorem okRun_snoc {room : Nat} {f : Files} {l : List Chg} {c : Chg} : okRun room f (l ++ [c]) ↔ okRun room f l ∧ ok room (run f l) c := by
  rw [okRun_append]; simp [okRun]
theorem okRun_take {room : Nat} {f : Files} {l : List Chg} (h : okRun room f l) (k : Nat) : okRun room f (l.take k) := by
  have := h; rw [← List.take_append_drop k l] at this; exact (okRun_append.1 this).1
theorem okRun_get {room : Nat} {f : Files} {l : List Chg} (h : okRun room f l) {k : Nat} {c : Chg} (hk : l[k]? = some c) : ok room (run f (l.take k)) c := by
  have hlt : k < l.length := (List.getElem?_eq_some_iff.1 hk).1
  have e : l.take (k + 1) = l.take k ++ [c] := by
    rw [List.take_succ_eq_append_getElem hlt]
    congr 2; exact (List.getElem?_eq_some_iff.1 hk).2
  have := okRun_take h (k + 1)
  rw [e] at this
  exact (okRun_snoc.1 this).2
theorem total_run {room : Nat} {f : Files} {l : List Chg} (h : okRun room f l) (ht : total f ≤ room) : total (run f l) ≤ room := by
  induction l generalizing f with
  | nil => exact ht
  | cons c l ih => exact ih h.2 (total_do h.1 ht)

/-- A disk: its room, whether it is off, how many operations it has left (-1: any), what is sure, what is loose. -/
structure D where
  room : Nat
  off : Bool
  left : Int
  sure : Files
  loose : List Chg
def D.now (d : D) : Files := run d.sure d.loose
structure D.Ok (d : D) : Prop where
  room1 : 1 ≤ d.room
  room2 : d.room ≤ 4194304
  left1 : -1 ≤ d.left
  left2 : d.left ≤ 9223372036854775807
  total : total d.sure ≤ d.room
  run : okRun d.room d.sure d.loose
theorem D.Ok.now {d : D} (h : d.Ok) : dsk.total d.now ≤ d.room := total_run h.run h.total

def D.fresh (room : Nat) : D := ⟨room, false, -1, fun _ => empty, []⟩
theorem D.fresh_ok {room : Nat} (h1 : 1 ≤ room) (h2 : room ≤ 4194304) : (D.fresh room).Ok :=
  ⟨h1, h2, (by decide : (-1 : Int) ≤ -1), (by decide : (-1 : Int) ≤ 9223372036854775807), by show dsk.total (fun _ => empty) ≤ room; rw [total_empty]; omega, trivial⟩
def D.room' (d : D) : Int := (d.room : Int) - (dsk.total d.now : Int)

/-- An operation is counted, or the power goes. -/
def D.op (d : D) : Int × D := if d.left = 0 then (50, { d with off := true }) else (0, { d with left := if d.left = -1 then -1 else d.left - 1 })
theorem D.op_ok {d : D} (h : d.Ok) : d.op.2.Ok := by
  unfold D.op
  split
  · exact ⟨h.room1, h.room2, h.left1, h.left2, h.total, h.run⟩
  · refine ⟨h.room1, h.room2, ?_, ?_, h.total, h.run⟩
    · show -1 ≤ (if d.left = -1 then -1 else d.left - 1); have := h.left1; split <;> omega
    · show (if d.left = -1 then -1 else d.left - 1) ≤ _; have := h.left2; split <;> omega
theorem D.op_loose (d : D) : d.op.2.loose = d.loose := by unfold D.op; split <;> rfl
theorem D.op_sure (d : D) : d.op.2.sure = d.sure := by unfold D.op; split <;> rfl
theorem D.op_room (d : D) : d.op.2.room = d.room := by unfold D.op; split <;> rfl
theorem D.op_now (d : D) : d.op.2.now = d.now := by unfold D.now; rw [D.op_loose, D.op_sure]
/-- A change is done, as long as there is power for it. -/
def D.chg (d : D) (c : Chg) : Int × D := if d.op.1 = 0 then (0, { d.op.2 with loose := d.loose ++ [c] }) else d.op
theorem D.chg_ok {d : D} {c : Chg} (h : d.Ok) (hc : ok d.room d.now c) : (d.chg c).2.Ok := by
  unfold D.chg
  split
  · have := D.op_ok h
    refine ⟨this.room1, this.room2, this.left1, this.left2, this.total, ?_⟩
    show okRun d.op.2.room d.op.2.sure (d.loose ++ [c])
    rw [D.op_room, D.op_sure]
    exact okRun_snoc.2 ⟨h.run, hc⟩
  · exact D.op_ok h
def isFile (i : Int) : Bool := decide (0 ≤ i) && decide (i < 16)
theorem isFile_iff {i : Int} : isFile i = true ↔ 0 ≤ i ∧ i < 16 := by simp [isFile]
theorem isFile_not {i : Int} : isFile i = false ↔ i < 0 ∨ 16 ≤ i := by simp [isFile]; omega
def D.append (d : D) (i : Int) (s : ByteArray) : Int × D :=
  if d.off = true then (50, d) else if isFile i = false then (2, d) else if d.room' < s.size then (7, d) else d.chg (.app i.toNat s)
def D.cut (d : D) (i n : Int) : Int × D :=
  if d.off = true then (50, d) else if isFile i = false then (2, d) else if n < 0 ∨ ((d.now i.toNat).size : Int) < n then (5, d) else d.chg (.cut i.toNat n.toNat)
def D.move (d : D) (a b : Int) : Int × D :=
  if d.off = true then (50, d) else if isFile a = false ∨ isFile b = false then (2, d) else if a = b then (2, d) else d.chg (.mov a.toNat b.toNat)
def D.sync (d : D) : Int × D :=
  if d.off = true then (50, d) else if d.op.1 = 0 then (0, { d.op.2 with sure := d.now, loose := [] }) else d.op
def D.read (d : D) (i : Int) : ByteArray × Int :=
  if d.off = true then (empty, 50) else if isFile i = false then (empty, 2) else (d.now i.toNat, 0)
def D.power (d : D) (n : Int) : Int × D :=
  if d.off = true then (50, d) else if n < 0 then (2, d) else (0, { d with left := n })
/-- What a crash keeps. -/
def D.kept (d : D) (n b : Int) : Files :=
  match d.loose[win n d.loose.length]? with
  | some c => part (run d.sure (d.loose.take (win n d.loose.length))) c b
  | none => run d.sure (d.loose.take (win n d.loose.length))
def D.crash (d : D) (n b : Int) : D := ⟨d.room, false, -1, d.kept n b, []⟩

theorem D.append_ok {d : D} (h : d.Ok) (i : Int) (s : ByteArray) : (d.append i s).2.Ok := by
  unfold D.append
  split
  · exact h
  · split
    · exact h
    · split
      · exact h
      · rename_i h1 h2
        have hf := isFile_iff.1 (by simpa using h1)
        refine D.chg_ok h ⟨by omega, ?_⟩
        unfold D.room' at h2; omega
theorem D.cut_ok {d : D} (h : d.Ok) (i n : Int) : (d.cut i n).2.Ok := by
  unfold D.cut
  split
  · exact h
  · split
    · exact h
    · split
      · exact h
      · rename_i h1 h2
        have hf := isFile_iff.1 (by simpa using h1)
        exact D.chg_ok h ⟨by omega, by omega⟩
theorem D.move_ok {d : D} (h : d.Ok) (a b : Int) : (d.move a b).2.Ok := by
  unfold D.move
  split
  · exact h
  · split
    · exact h
    · split
      · exact h
      · rename_i h1 h2
        have hf := isFile_iff (i := a); have hg := isFile_iff (i := b)
        simp only [not_or, Bool.not_eq_false] at h1
        have := hf.1 h1.1; have := hg.1 h1.2
        exact D.chg_ok h ⟨by omega, by omega, by omega⟩
theorem D.sync_ok {d : D} (h : d.Ok) : d.sync.2.Ok := by
  unfold D.sync
  split
  · exact h
  · split
    · have := D.op_ok h
      refine ⟨this.room1, this.room2, this.left1, this.left2, ?_, trivial⟩
      show dsk.total d.now ≤ d.op.2.room
      rw [D.op_room]; exact h.now
    · exact D.op_ok h
theorem D.power_ok {d : D} (h : d.Ok) {n : Int} (hn : n ≤ 9223372036854775807) : (d.power n).2.Ok := by
  unfold D.power
  split
  · exact h
  · split
    · exact h
    · exact ⟨h.room1, h.room2, by show -1 ≤ n; omega, hn, h.total, h.run⟩
theorem D.kept_total {d : D} (h : d.Ok) (n b : Int) : dsk.total (d.kept n b) ≤ d.room := by
  have h1 := total_run (okRun_take h.run (win n d.loose.length)) h.total
  unfold D.kept
  split
  · rename_i c hc
    exact total_part b (okRun_get h.run hc) h1
  · exact h1
theorem D.crash_ok {d : D} (h : d.Ok) (n b : Int) : (d.crash n b).Ok :=
  ⟨h.room1, h.room2, (by decide : (-1 : Int) ≤ -1), (by decide : (-1 : Int) ≤ 9223372036854775807), D.kept_total h n b, trivial⟩
theorem D.crash_now (d : D) (n b : Int) : (d.crash n b).now = d.kept n b := rfl
theorem D.now_size {d : D} (h : d.Ok) {i : Nat} (hi : i < 16) : (d.now i).size ≤ d.room := Nat.le_trans (le_total _ hi) h.now
end Go.Proofs.Ytbnnbaoimidfnaa.dsk

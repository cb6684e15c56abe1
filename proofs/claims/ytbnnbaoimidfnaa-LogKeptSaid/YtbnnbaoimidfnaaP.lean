/- Plain: what a log is, its records' bytes, what each call answers and leaves; what is read of bytes that begin with records. -/
import Derived.Test.YtbnnbaoimidfnaaFrQ
import Derived.Test.YtbnnbaoimidfnaaDkP
namespace Go.Proofs.Ytbnnbaoimidfnaa.lg
set_option linter.unusedSimpArgs false
set_option linter.unusedVariables false
open byt frm dsk

/-- A record's bytes. -/
def fb (x : Fr) : ByteArray := shut (body x.1.1 (txt (sev (tf x.1.2.size)) ++ x.1.2))
theorem fb_size (x : Fr) : (fb x).size = fsz x := by
  unfold fb fsz; rw [shut_size, body_size, ByteArray.size_append, txt_size]; omega
def bytesOf : List Fr → ByteArray
  | [] => txt []
  | x :: l => fb x ++ bytesOf l
theorem bytesOf_size (l : List Fr) : (bytesOf l).size = whl l := by
  induction l with
  | nil => rfl
  | cons x l ih => rw [bytesOf, ByteArray.size_append, ih, fb_size, whl]
theorem bytesOf_append (l m : List Fr) : bytesOf (l ++ m) = bytesOf l ++ bytesOf m := by
  induction l with
  | nil => apply ba_ext; rw [List.nil_append, bl_append]; rfl
  | cons x l ih => rw [List.cons_append, bytesOf, bytesOf, ih]; exact ba_ext (by simp only [bl_append, List.append_assoc])
theorem bytesOf_one (x : Fr) : bytesOf [x] = fb x := append_none _
theorem bytesOf_snoc (l : List Fr) (x : Fr) : bytesOf (l ++ [x]) = bytesOf l ++ fb x := by rw [bytesOf_append, bytesOf_one]
/-- Records that may be put. -/
def Fine (l : List Fr) : Prop := ∀ x ∈ l, 0 < x.1.1
theorem Fine.append {l m : List Fr} (h : Fine l) (k : Fine m) : Fine (l ++ m) := fun x hx => (List.mem_append.1 hx).elim (h x) (k x)
theorem Fine.take {l : List Fr} (h : Fine l) (n : Nat) : Fine (l.take n) := fun x hx => h x (List.mem_of_mem_take hx)
theorem all_fb (x : Fr) (h : 0 < x.1.1) (t : ByteArray) : all (fb x ++ t) = x :: all t := by
  have ht := put_take (k := x.1.1) (p := x.1.2) t h x.2.1 x.2.2
  obtain ⟨hx, h1, _, _, _⟩ := all_step ht
  have e : (fb x ++ t).extract (fb x).size (fb x ++ t).size = t := by
    apply ba_ext
    rw [bl_extract, bl_append, size_bl, List.drop_left]
  unfold fb at e ⊢
  rw [h1, e]
theorem all_bytesOf {l : List Fr} (h : Fine l) (t : ByteArray) : all (bytesOf l ++ t) = l ++ all t := by
  induction l with
  | nil => rw [List.nil_append]; congr 1
  | cons x l ih =>
    have e : bytesOf (x :: l) ++ t = fb x ++ (bytesOf l ++ t) := by rw [bytesOf]; exact ba_ext (by simp only [bl_append, List.append_assoc])
    rw [e, all_fb x (h x List.mem_cons_self), ih fun y hy => h y (List.mem_cons_of_mem _ hy)]; rfl
theorem all_none : all (txt []) = [] := rfl
theorem all_torn (x : Fr) (h : 0 < x.1.1) {n : Nat} (hn : n < (fb x).size) : all ((fb x).extract 0 n) = [] :=
  all_end (torn h x.2.1 x.2.2 hn)
theorem all_fine (s : ByteArray) : Fine (all s) := by
  generalize hm : s.size = m
  induction m using Nat.strongRecOn generalizing s with
  | ind m ih =>
    by_cases hc : (takeF s).2.2.2 = 0
    · obtain ⟨k, p, n, hx⟩ : ∃ k p n, takeF s = (k, p, n, 0) := ⟨_, _, _, by rw [← hc]⟩
      obtain ⟨hp, h1, h2, h3, h4⟩ := all_step hx
      obtain ⟨h0, _⟩ := take_put hx
      rw [h1]
      intro y hy
      rcases List.mem_cons.1 hy with rfl | hy
      · exact h0
      · exact ih (s.extract n s.size).size (by rw [rest_size]; omega) _ rfl y hy
    · rw [all_end hc]; intro y hy; cases hy
/-- Bytes begin with their frames. -/
theorem all_front (s : ByteArray) : s.extract 0 (whl (all s)) = bytesOf (all s) := by
  generalize hm : s.size = m
  induction m using Nat.strongRecOn generalizing s with
  | ind m ih =>
    by_cases hc : (takeF s).2.2.2 = 0
    · obtain ⟨k, p, n, hx⟩ : ∃ k p n, takeF s = (k, p, n, 0) := ⟨_, _, _, by rw [← hc]⟩
      obtain ⟨hp, h1, h2, h3, h4⟩ := all_step hx
      obtain ⟨_, _, _, _, _, h5⟩ := take_put hx
      have := ih (s.extract n s.size).size (by rw [rest_size]; omega) _ rfl
      rw [h1, whl, h2, bytesOf, ← this]
      have e : fb ⟨(k, p), hp⟩ = s.extract 0 n := h5.symm
      rw [e]
      apply ba_ext
      rw [bl_append, bl_sub, bl_sub, bl_sub, bl_extract, List.take_add]
    · rw [all_end hc]; apply ba_ext; rw [bl_sub]; rfl
theorem all_whole {s : ByteArray} (h : whl (all s) = s.size) : s = bytesOf (all s) := by
  rw [← all_front, h]; apply ba_ext; rw [bl_sub]; exact (List.take_length).symm

/-- A log: its file, its records, how many are sure, whether the file was changed since. -/
structure Lg where
  file : Nat
  recs : List Fr
  sure : Nat
  loose : Bool
def Lg.at (y : Lg) (i : Nat) : Nat := whl (y.recs.take i)
/-- What a log is to its disk. -/
structure Lg.Ok (y : Lg) (x : D) : Prop where
  file : y.file < 16
  now : x.now y.file = bytesOf y.recs
  fine : Fine y.recs
  sure : y.sure ≤ y.recs.length
theorem whl_take (l : List Fr) (n : Nat) : whl (l.take n) ≤ whl l := by
  have := whl_append (l.take n) (l.drop n)
  rw [List.take_append_drop] at this; omega
theorem Lg.Ok.size {y : Lg} {x : D} (h : y.Ok x) (hx : x.Ok) : whl y.recs ≤ 4194304 := by
  have h1 := D.now_size hx h.file
  rw [h.now, bytesOf_size] at h1
  have := hx.room2; omega
theorem Lg.Ok.len {y : Lg} {x : D} (h : y.Ok x) (hx : x.Ok) : y.recs.length ≤ 4194304 := Nat.le_trans (whl_len _) (h.size hx)

/-- Put of a record that may be put. -/
def putL (x : D) (y : Lg) (r : Fr) : Int × D × Lg :=
  if (x.append y.file (fb r)).1 = 0 then (0, (x.append y.file (fb r)).2, { y with recs := y.recs ++ [r], loose := true }) else ((x.append y.file (fb r)).1, (x.append y.file (fb r)).2, y)
def syncL (x : D) (y : Lg) : Int × D × Lg :=
  if y.loose = false then (0, x, y) else if x.sync.1 = 0 then (0, x.sync.2, { y with sure := y.recs.length, loose := false }) else (x.sync.1, x.sync.2, y)
def cutL (x : D) (y : Lg) (n : Int) : Int × D × Lg :=
  if n < 0 ∨ (y.recs.length : Int) < n then (5, x, y)
  else if n = y.recs.length then (0, x, y)
  else if (x.cut y.file (y.at n.toNat)).1 = 0 then syncL (x.cut y.file (y.at n.toNat)).2 { y with recs := y.recs.take n.toNat, sure := min y.sure n.toNat, loose := true }
  else ((x.cut y.file (y.at n.toNat)).1, (x.cut y.file (y.at n.toNat)).2, y)

theorem op_now' {x x' : D} {E : Int} (h : x.op = (E, x')) : x'.now = x.now := by have := D.op_now x; rwa [h] at this
theorem chg_now {x x' : D} {c : Chg} {E : Int} (h : x.chg c = (E, x')) : x'.now = if E = 0 then doIt x.now c else x.now := by
  unfold D.chg at h
  split at h
  · rename_i h0
    obtain ⟨rfl, rfl⟩ := Prod.mk.inj h
    rw [if_pos rfl]
    show run x.op.2.sure (x.loose ++ [c]) = _
    rw [run_snoc, D.op_sure]; rfl
  · rename_i h0
    rw [h] at h0
    rw [if_neg h0]; exact op_now' h
theorem append_now {x x' : D} {i : Nat} {s : ByteArray} {E : Int} (h : x.append i s = (E, x')) : x'.now = if E = 0 then upd x.now i (x.now i ++ s) else x.now := by
  unfold D.append at h
  split at h
  · obtain ⟨rfl, rfl⟩ := Prod.mk.inj h; rfl
  split at h
  · obtain ⟨rfl, rfl⟩ := Prod.mk.inj h; rfl
  split at h
  · obtain ⟨rfl, rfl⟩ := Prod.mk.inj h; rfl
  · rw [chg_now h, Int.toNat_natCast]; rfl
theorem cut_now {x x' : D} {i n : Nat} {E : Int} (h : x.cut i n = (E, x')) : x'.now = if E = 0 then upd x.now i ((x.now i).extract 0 n) else x.now := by
  unfold D.cut at h
  split at h
  · obtain ⟨rfl, rfl⟩ := Prod.mk.inj h; rfl
  split at h
  · obtain ⟨rfl, rfl⟩ := Prod.mk.inj h; rfl
  split at h
  · obtain ⟨rfl, rfl⟩ := Prod.mk.inj h; rfl
  · rw [chg_now h, Int.toNat_natCast]; rfl
theorem sync_now {x x' : D} {E : Int} (h : x.sync = (E, x')) : x'.now = x.now := by
  unfold D.sync at h
  split at h
  · obtain ⟨rfl, rfl⟩ := Prod.mk.inj h; rfl
  split at h
  · obtain ⟨rfl, rfl⟩ := Prod.mk.inj h; rfl
  · exact op_now' h
theorem putL_ok {x x' : D} {y y' : Lg} {r : Fr} {E : Int} (h : putL x y r = (E, x', y')) (hr : 0 < r.1.1) (hy : y.Ok x) : y'.Ok x' := by
  obtain ⟨E1, x1, h1⟩ : ∃ E1 x1, x.append y.file (fb r) = (E1, x1) := ⟨_, _, rfl⟩
  have hn := append_now h1
  unfold putL at h
  rw [h1] at h
  split at h
  · rename_i h0
    simp only [Prod.mk.injEq] at h
    obtain ⟨rfl, rfl, rfl⟩ := h
    rw [if_pos h0] at hn
    refine ⟨hy.file, ?_, hy.fine.append fun z hz => by rw [List.mem_singleton.1 hz]; exact hr, ?_⟩
    · show x1.now y.file = bytesOf (y.recs ++ [r])
      rw [hn, upd_same, hy.now, bytesOf_snoc]
    · show y.sure ≤ (y.recs ++ [r]).length
      have := hy.sure; rw [List.length_append]; omega
  · rename_i h0
    simp only [Prod.mk.injEq] at h
    obtain ⟨rfl, rfl, rfl⟩ := h
    rw [if_neg h0] at hn
    exact ⟨hy.file, by rw [hn]; exact hy.now, hy.fine, hy.sure⟩
theorem syncL_ok {x x' : D} {y y' : Lg} {E : Int} (h : syncL x y = (E, x', y')) (hy : y.Ok x) : y'.Ok x' := by
  obtain ⟨E1, x1, h1⟩ : ∃ E1 x1, x.sync = (E1, x1) := ⟨_, _, rfl⟩
  have hn := sync_now h1
  unfold syncL at h
  rw [h1] at h
  split at h
  · simp only [Prod.mk.injEq] at h
    obtain ⟨rfl, rfl, rfl⟩ := h; exact hy
  split at h
  · simp only [Prod.mk.injEq] at h
    obtain ⟨rfl, rfl, rfl⟩ := h
    exact ⟨hy.file, by rw [hn]; exact hy.now, hy.fine, Nat.le_refl _⟩
  · simp only [Prod.mk.injEq] at h
    obtain ⟨rfl, rfl, rfl⟩ := h
    exact ⟨hy.file, by rw [hn]; exact hy.now, hy.fine, hy.sure⟩
theorem bytesOf_take (l : List Fr) (n : Nat) : (bytesOf l).extract 0 (whl (l.take n)) = bytesOf (l.take n) := by
  have e : bytesOf l = bytesOf (l.take n) ++ bytesOf (l.drop n) := by rw [← bytesOf_append, List.take_append_drop]
  have hs := bytesOf_size (l.take n)
  rw [e, ← hs]
  apply ba_ext
  rw [bl_sub, bl_append, size_bl, List.take_left]
/-- Behind a Cut that the disk has done. -/
theorem cut_ok {x x1 : D} {y : Lg} {k : Nat} (h : x.cut y.file (y.at k) = (0, x1)) (hk : k ≤ y.recs.length) (hy : y.Ok x) : Lg.Ok { y with recs := y.recs.take k, sure := min y.sure k, loose := true } x1 := by
  have hn := cut_now h
  rw [if_pos rfl] at hn
  refine ⟨hy.file, ?_, hy.fine.take k, ?_⟩
  · show x1.now y.file = bytesOf (y.recs.take k)
    rw [hn, upd_same, hy.now]; exact bytesOf_take _ _
  · show min y.sure k ≤ (y.recs.take k).length
    rw [List.length_take]; have := hy.sure; omega
end Go.Proofs.Ytbnnbaoimidfnaa.lg

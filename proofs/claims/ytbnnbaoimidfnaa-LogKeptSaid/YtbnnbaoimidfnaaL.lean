/- Plain: a log on a disk that stays on and has room: each Put of a kind is done, each Cut that may be. What texts hands back. -/
import Derived.Test.YtbnnbaoimidfnaaK
namespace Go.Proofs.Ytbnnbaoimidfnaa.lg
set_option linter.unusedSimpArgs false
set_option linter.unusedVariables false
open Go.RowKit byt frm dsk

structure Good (x : D) (y : Lg) (k : Nat) : Prop where
  off : x.off = false
  left : x.left = -1
  room : x.room = 4194304
  total : total x.now = whl y.recs
  small : ∀ r ∈ y.recs, fsz r ≤ 1015
  len : y.recs.length ≤ k
  loose : x.loose.length ≤ 2 * k
theorem whl_small {l : List Fr} (h : ∀ r ∈ l, fsz r ≤ 1015) : whl l ≤ 1015 * l.length := by
  induction l with
  | nil => exact Nat.le_refl _
  | cons x l ih =>
    rw [whl, List.length_cons]
    have h1 := h x List.mem_cons_self
    have h2 := ih fun y hy => h y (List.mem_cons_of_mem _ hy)
    omega
theorem fsz_small {x : Fr} (h : x.1.2.size ≤ 1000) : fsz x ≤ 1015 := by
  unfold fsz
  have := sev_ten (tf_lt (fits_size (s := x.1.2) (by omega)).1 (fits_size (s := x.1.2) (by omega)).2)
  omega
section
variable {x x2 : D} {y y2 : Lg} {E : Int} {k : Nat}
theorem chg_on {c : Chg} (ho : x.off = false) (hl : x.left = -1) (h : x.chg c = (E, x2)) : E = 0 ∧ x2.off = false ∧ x2.left = -1 ∧ x2.room = x.room ∧ x2.loose = x.loose ++ [c] ∧ x2.sure = x.sure := by
  obtain ⟨h1, h2, h3⟩ := op_left hl
  unfold D.chg at h
  rw [if_pos h1] at h
  obtain ⟨rfl, rfl⟩ := Prod.mk.inj h
  exact ⟨rfl, h2.trans ho, h3, D.op_room x, rfl, D.op_sure x⟩
theorem sync_on (ho : x.off = false) (hl : x.left = -1) (h : x.sync = (E, x2)) : E = 0 ∧ x2.off = false ∧ x2.left = -1 ∧ x2.room = x.room ∧ x2.loose = [] ∧ x2.sure = x.now := by
  obtain ⟨h1, h2, h3⟩ := op_left hl
  unfold D.sync at h
  rw [if_neg (by rw [ho]; decide), if_pos h1] at h
  obtain ⟨rfl, rfl⟩ := Prod.mk.inj h
  exact ⟨rfl, h2.trans ho, h3, D.op_room x, rfl, rfl⟩
theorem append_on {f : Nat} {s : ByteArray} (hf : f < 16) (ho : x.off = false) (hl : x.left = -1) (hr : total x.now + s.size ≤ x.room) (h : x.append f s = (E, x2)) : x.chg (.app f s) = (E, x2) := by
  unfold D.append at h
  rw [if_neg (by rw [ho]; decide), if_neg (by rw [isFile_iff.2 ⟨by omega, by omega⟩]; decide), if_neg (by unfold D.room'; omega), Int.toNat_natCast] at h
  exact h
theorem cut_on {f n : Nat} (hf : f < 16) (ho : x.off = false) (hn : n ≤ (x.now f).size) (h : x.cut f n = (E, x2)) : x.chg (.cut f n) = (E, x2) := by
  unfold D.cut at h
  rw [if_neg (by rw [ho]; decide), if_neg (by rw [isFile_iff.2 ⟨by omega, by omega⟩]; decide), Int.toNat_natCast, if_neg (by omega), Int.toNat_natCast] at h
  exact h
theorem total_append {f : Files} {i : Nat} {s : ByteArray} (hi : i < 16) : total (upd f i (f i ++ s)) = total f + s.size := by
  have := total_upd f (f i ++ s) hi
  rw [ByteArray.size_append] at this; omega
theorem total_cut {f : Files} {i n : Nat} (hi : i < 16) (hn : n ≤ (f i).size) : total (upd f i ((f i).extract 0 n)) + (f i).size = total f + n := by
  have := total_upd f ((f i).extract 0 n) hi
  rw [extract_size hn] at this; omega
theorem putR_good {kd : Nat} {p : ByteArray} (hg : Good x y k) (hy : y.Ok x) (hk : k ≤ 100) (h0 : 0 < kd) (hkd : kd < 256) (hp : p.size ≤ 1000) (h : putR x y kd p = (E, x2, y2)) :
    ∃ hx, E = 0 ∧ y2.recs = y.recs ++ [⟨(kd, p), hx⟩] ∧ Good x2 y2 (k + 1) ∧ x2.loose.length ≤ 2 * k + 1 := by
  rcases putR_cases h with ⟨_, hkp, h⟩ | ⟨_, _, _, hn⟩
  · obtain ⟨h1, h2⟩ := putL_cases h
    have hfs := fsz_small (x := ⟨(kd, p), hkp⟩) hp
    have hw := whl_small hg.small
    have hlen := hg.len
    have hch := append_on hy.file hg.off hg.left (by rw [hg.total, hg.room, fb_size]; omega) h1
    obtain ⟨rfl, c2, c3, c4, c5, c6⟩ := chg_on hg.off hg.left hch
    have hnow := append_now h1
    rw [if_pos rfl] at hnow
    rcases h2 with ⟨_, rfl⟩ | ⟨h, _⟩
    · refine ⟨hkp, rfl, rfl, ⟨c2, c3, c4.trans hg.room, ?_, fun r hr => ?_, ?_, ?_⟩, ?_⟩
      · rw [hnow, total_append hy.file, hg.total, fb_size]
        show _ = whl (y.recs ++ [_])
        rw [whl_append]; rfl
      · rcases List.mem_append.1 hr with hr | hr
        · exact hg.small r hr
        · rw [List.mem_singleton.1 hr]; exact hfs
      · show (y.recs ++ [_]).length ≤ _
        rw [List.length_append]; exact Nat.succ_le_succ hlen
      · rw [c5, List.length_append]; have := hg.loose; show x.loose.length + 1 ≤ _; omega
      · rw [c5, List.length_append]; have := hg.loose; show x.loose.length + 1 ≤ _; omega
    · exact absurd rfl h
  · exact absurd ⟨h0, hkd, by omega⟩ hn
theorem cutL_good {n : Int} (hg : Good x y k) (hy : y.Ok x) (h : cutL x y n = (E, x2, y2)) :
    ((n < 0 ∨ (y.recs.length : Int) < n) ∧ E = 5 ∧ x2 = x ∧ y2 = y) ∨ (∃ m : Nat, n = m ∧ m ≤ y.recs.length ∧ E = 0 ∧ y2.recs = y.recs.take m ∧ Good x2 y2 k ∧ x2.loose.length ≤ x.loose.length) := by
  by_cases h1 : n < 0 ∨ (y.recs.length : Int) < n
  · unfold cutL at h
    rw [if_pos h1] at h
    simp only [Prod.mk.injEq] at h
    obtain ⟨rfl, rfl, rfl⟩ := h
    exact .inl ⟨h1, rfl, rfl, rfl⟩
  · obtain ⟨m, rfl⟩ : ∃ m : Nat, n = m := ⟨n.toNat, by omega⟩
    refine .inr ⟨m, rfl, by omega, ?_⟩
    by_cases h2 : m = y.recs.length
    · unfold cutL at h
      rw [if_neg h1, if_pos (by omega)] at h
      simp only [Prod.mk.injEq] at h
      obtain ⟨rfl, rfl, rfl⟩ := h
      exact ⟨rfl, by rw [h2, List.take_length], hg, Nat.le_refl _⟩
    · have hm : m < y.recs.length := by omega
      obtain ⟨E1, x1, hc⟩ : ∃ E1 x1, x.cut y.file (y.at m : Nat) = (E1, x1) := ⟨_, _, rfl⟩
      have hat : y.at m ≤ (x.now y.file).size := by rw [hy.now, bytesOf_size]; exact whl_take _ _
      obtain ⟨rfl, c2, c3, c4, c5, c6⟩ := chg_on hg.off hg.left (cut_on hy.file hg.off hat hc)
      rw [cutL_mid hm hc, if_pos rfl] at h
      have hnow := cut_now hc
      rw [if_pos rfl] at hnow
      rcases syncL_cases h with ⟨h', _⟩ | ⟨_, hs, hr⟩
      · cases h'
      · obtain ⟨rfl, d2, d3, d4, d5, d6⟩ := sync_on c2 c3 hs
        have hsn := sync_now hs
        rcases hr with ⟨_, rfl⟩ | ⟨h, _⟩
        · refine ⟨rfl, rfl, ⟨d2, d3, d4.trans (c4.trans hg.room), ?_, fun r hr => hg.small r (List.mem_of_mem_take hr), ?_, by rw [d5]; exact Nat.zero_le _⟩, by rw [d5]; exact Nat.zero_le _⟩
          · rw [hsn, hnow]
            have ht := total_cut (f := x.now) hy.file hat
            have hz : (x.now y.file).size = whl y.recs := by rw [hy.now, bytesOf_size]
            have := hg.total
            show total _ = whl (y.recs.take m)
            unfold Lg.at at ht ⊢
            omega
          · show (y.recs.take m).length ≤ k
            rw [List.length_take]; have := hg.len; omega
        · exact absurd rfl h
end

/-- A record's cells, as the law has it. -/
def recRow (x : Fr) : List Value := [.int .u8 (x.1.1 : Nat), .string x.1.2, .bool false, .int .i64 0]
def recRows : List Fr → List Value
  | [] => []
  | x :: l => recRow x ++ recRows l
theorem recRows_append (l m : List Fr) : recRows (l ++ m) = recRows l ++ recRows m := by
  induction l with
  | nil => rfl
  | cons x l ih => rw [List.cons_append, recRows, recRows, ih, List.append_assoc]
theorem recRows_snoc (l : List Fr) (x : Fr) : recRows (l ++ [x]) = recRows l ++ recRow x := by rw [recRows_append]; show _ ++ (recRow x ++ []) = _; rw [List.append_nil]
theorem recRows_length (l : List Fr) : (recRows l).length = l.length * 4 := by
  induction l with
  | nil => rfl
  | cons x l ih => rw [recRows, List.length_append, ih, List.length_cons]; show 4 + _ = _; omega
theorem recRows_take (l : List Fr) (k : Nat) : (recRows l).take (k * 4) = recRows (l.take k) := by
  induction l generalizing k with
  | nil => simp [recRows]
  | cons x l ih =>
    cases k with
    | zero => rfl
    | succ k =>
      rw [recRows, List.take_succ_cons, recRows, ← ih k, show (k + 1) * 4 = (recRow x).length + k * 4 from by show _ = 4 + _; omega, List.take_length_add_append]
theorem recRows_get (l : List Fr) (k : Nat) (x : Fr) (h : l[k]? = some x) (j : Nat) (hj : j < 4) : (recRows l)[k * 4 + j]? = (recRow x)[j]? := by
  induction l generalizing k with
  | nil => simp at h
  | cons y l ih =>
    cases k with
    | zero =>
      simp at h; subst h
      rw [recRows, List.getElem?_append_left (by show _ < 4; omega), Nat.zero_mul, Nat.zero_add]
    | succ k =>
      have := ih k (by simpa using h)
      rw [recRows, List.getElem?_append_right (by show 4 ≤ _; omega), ← this]
      congr 1
      show _ - 4 = _; omega
theorem Row.range4 {w : World} {g cap n : Nat} {l : List Fr} {k : Nat} {r : Fr} (h : Row w 38 4 (.slice (some ⟨g, 0, none⟩) n cap) n (recRows l)) (hr : l[k]? = some r) : w.rangeAt g (k * 4) (recRow r) := by
  intro j u hj
  have hj4 : j < 4 := (List.getElem?_eq_some_iff.1 hj).1
  exact h.cellAt (by rw [recRows_get l k r hr j hj4]; exact hj)
end Go.Proofs.Ytbnnbaoimidfnaa.lg

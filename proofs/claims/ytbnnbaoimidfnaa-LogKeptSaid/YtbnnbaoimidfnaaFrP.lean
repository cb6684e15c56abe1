/- Plain: what a frame's bytes are; what bytes begin with a frame; all frames that bytes begin with; no program. -/
import Derived.Test.YtbnnbaoimidfnaaByF
import Derived.Test.YtbnnbaoimidfnaaSmP
namespace Go.Proofs.Ytbnnbaoimidfnaa.frm
open byt

theorem ba_ext {a b : ByteArray} (h : bl a = bl b) : a = b := WideShapes.bytes_inj h
theorem bl_append (a b : ByteArray) : bl (a ++ b) = bl a ++ bl b := by
  unfold bl
  rw [ByteArray.data_append, Array.toList_append]
theorem size_bl (a : ByteArray) : a.size = (bl a).length := rfl

/-- A sum's bytes. -/
def tailL (n : Nat) : List UInt8 := [UInt8.ofNat n, UInt8.ofNat (n / 256), UInt8.ofNat (n / 65536), UInt8.ofNat (n / 16777216)]
theorem tailL_length (n : Nat) : (tailL n).length = 4 := rfl
theorem ofNat_inj {a b : Nat} (h : UInt8.ofNat a = UInt8.ofNat b) : a % 256 = b % 256 := by
  have := congrArg UInt8.toNat h
  simpa [UInt8.toNat_ofNat'] using this
theorem tailL_inj {n m : Nat} (hn : n < 4294967296) (hm : m < 4294967296) (h : tailL n = tailL m) : n = m := by
  unfold tailL at h
  simp only [List.cons.injEq, and_true] at h
  obtain ⟨h1, h2, h3, h4⟩ := h
  have e1 := ofNat_inj h1
  have e2 := ofNat_inj h2
  have e3 := ofNat_inj h3
  have e4 := ofNat_inj h4
  omega
/-- The sum of a text, as a frame has it. -/
def tl (s : ByteArray) : ByteArray := txt (tailL (sum.sm (bl s)))
theorem tl_size (s : ByteArray) : (tl s).size = 4 := rfl
theorem bl_tl (s : ByteArray) : bl (tl s) = tailL (sum.sm (bl s)) := rfl
/-- A text with its sum behind it. -/
def shut (s : ByteArray) : ByteArray := s ++ tl s
theorem shut_size (s : ByteArray) : (shut s).size = s.size + 4 := by unfold shut; rw [ByteArray.size_append, tl_size]
/-- What a frame's sum is of. -/
def body (k : Nat) (t : ByteArray) : ByteArray := txt [UInt8.ofNat k] ++ t
theorem body_size (k : Nat) (t : ByteArray) : (body k t).size = 1 + t.size := by unfold body; rw [ByteArray.size_append]; rfl
theorem bl_body (k : Nat) (t : ByteArray) : bl (body k t) = UInt8.ofNat k :: bl t := by unfold body; rw [bl_append]; rfl

/-- What Put answers: the bytes, the code. -/
def putF (k : Nat) (p : ByteArray) : ByteArray × Int :=
  if k = 0 then (txt [], 2) else if (putO p).2 ≠ 0 then (txt [], (putO p).2) else (shut (body k (putO p).1), 0)
/-- What Take answers: the kind, the payload, how many bytes, the code. -/
def takeF (s : ByteArray) : Nat × ByteArray × Nat × Int :=
  if s.size = 0 then (0, txt [], 0, 20)
  else if ((bl s).headD 0).toNat = 0 then (0, txt [], 0, 21)
  else if (textO (s.extract 1 s.size)).2.2 ≠ 0 then (0, txt [], 0, (textO (s.extract 1 s.size)).2.2)
  else if s.size < (textO (s.extract 1 s.size)).2.1 + 5 then (0, txt [], 0, 20)
  else if s.extract ((textO (s.extract 1 s.size)).2.1 + 1) ((textO (s.extract 1 s.size)).2.1 + 5) ≠ tl (s.extract 0 ((textO (s.extract 1 s.size)).2.1 + 1)) then (0, txt [], 0, 40)
  else (((bl s).headD 0).toNat, (textO (s.extract 1 s.size)).1, (textO (s.extract 1 s.size)).2.1 + 5, 0)

theorem takeF_fine {s t : ByteArray} {k m : Nat} (hk : k ≠ 0) (hh : ((bl s).headD 0).toNat = k) (hx : textO (s.extract 1 s.size) = (t, m, 0)) (hs : m + 5 ≤ s.size)
    (he : s.extract (m + 1) (m + 5) = tl (s.extract 0 (m + 1))) : takeF s = (k, t, m + 5, 0) := by
  unfold takeF
  rw [hx, hh]
  simp only
  rw [if_neg (by omega), if_neg hk, if_neg (by simp), if_neg (by omega), if_neg (by simpa using he)]
theorem putO_code (p : ByteArray) : (putO p).2 = if 65536 < p.size then 3 else 0 := by unfold putO; split <;> rfl
theorem putF_zero (p : ByteArray) : putF 0 p = (txt [], 2) := rfl
theorem putF_long {k : Nat} {p : ByteArray} (hk : k ≠ 0) (h : 65536 < p.size) : putF k p = (txt [], 3) := by
  unfold putF
  rw [if_neg hk, putO_code, if_pos h]
  simp
theorem putO_fine {p : ByteArray} (h : p.size ≤ 65536) : putO p = (txt (sev (tf p.size)) ++ p, 0) := by unfold putO; rw [if_neg (by omega)]
theorem putF_fine {k : Nat} {p : ByteArray} (hk : k ≠ 0) (h : p.size ≤ 65536) : putF k p = (shut (body k (txt (sev (tf p.size)) ++ p)), 0) := by
  unfold putF
  rw [if_neg hk, putO_fine h]
  simp

/-- A text that was read as bytes. -/
theorem text_ok {r t : ByteArray} {n : Nat} (h : textO r = (t, n, 0)) : t.size ≤ 65536 ∧ n ≤ r.size ∧ n = (sev (tf t.size)).length + t.size ∧ (bl r).take n = sev (tf t.size) ++ bl t := by
  by_cases h0 : (take (bl r)).2.2 = 0
  · obtain ⟨u, z, hr, ht, hu⟩ := take_ok h0
    unfold textO at h
    rw [ht] at h
    simp only at h
    rw [if_neg (by simp)] at h
    by_cases h1 : fo u < 0
    · rw [if_pos h1] at h; simp at h
    · rw [if_neg h1] at h
      by_cases h2 : 65536 < fo u
      · rw [if_pos h2] at h; simp at h
      · rw [if_neg h2] at h
        by_cases h3 : r.size < (sev u).length + (fo u).toNat
        · rw [if_pos h3] at h; simp at h
        · rw [if_neg h3] at h
          simp only [Prod.mk.injEq, and_true] at h
          obtain ⟨rfl, rfl⟩ := h
          have hz : (r.extract (sev u).length ((sev u).length + (fo u).toNat)).size = (fo u).toNat := by
            rw [ByteArray.size_extract]; omega
          have hf : tf ((fo u).toNat : Int) = u := by rw [show ((fo u).toNat : Int) = fo u by omega, tf_fo]
          rw [hz, hf]
          refine ⟨by omega, by omega, rfl, ?_⟩
          rw [bl_cut, Nat.add_sub_cancel_left, List.take_add]
          congr 1
          rw [hr, List.take_left]
  · exfalso
    unfold textO at h
    rw [if_pos h0] at h
    simp only [Prod.mk.injEq] at h
    exact h0 h.2.2
theorem bl_sub (s : ByteArray) (k : Nat) : bl (s.extract 0 k) = (bl s).take k := by rw [bl_cut, List.drop_zero, Nat.sub_zero]

/-- A frame that was read is what is put. -/
theorem take_put {s p : ByteArray} {k n : Nat} (h : takeF s = (k, p, n, 0)) : 0 < k ∧ k < 256 ∧ p.size ≤ 65536 ∧ n ≤ s.size ∧ n = 1 + (sev (tf p.size)).length + p.size + 4 ∧ s.extract 0 n = shut (body k (txt (sev (tf p.size)) ++ p)) := by
  unfold takeF at h
  by_cases h1 : s.size = 0
  · rw [if_pos h1] at h; simp at h
  rw [if_neg h1] at h
  by_cases h2 : ((bl s).headD 0).toNat = 0
  · rw [if_pos h2] at h; simp at h
  rw [if_neg h2] at h
  obtain ⟨t, m, c, hx⟩ : ∃ t m c, textO (s.extract 1 s.size) = (t, m, c) := ⟨_, _, _, rfl⟩
  rw [hx] at h
  simp only at h
  by_cases h3 : c = 0
  · subst h3
    rw [if_neg (by simp)] at h
    by_cases h4 : s.size < m + 5
    · rw [if_pos h4] at h; simp at h
    rw [if_neg h4] at h
    by_cases h5 : s.extract (m + 1) (m + 5) = tl (s.extract 0 (m + 1))
    · rw [if_neg (by simpa using h5)] at h
      simp only [Prod.mk.injEq, and_true] at h
      obtain ⟨rfl, rfl, rfl⟩ := h
      obtain ⟨t1, t2, t3, t4⟩ := text_ok hx
      have hse : (s.extract 1 s.size).size = s.size - 1 := by rw [size_bl, bl_extract, List.length_drop]; rfl
      have hb := byte_lt ((bl s).headD 0)
      rw [hse] at t2
      refine ⟨by omega, hb, t1, by omega, by omega, ?_⟩
      obtain ⟨b, r, hs⟩ : ∃ b r, bl s = b :: r := by
        cases hbl : bl s with
        | nil => exact absurd (show s.size = 0 by rw [size_bl, hbl]; rfl) h1
        | cons b r => exact ⟨b, r, rfl⟩
      rw [bl_extract, hs] at t4
      simp only [List.drop_succ_cons, List.drop_zero] at t4
      have hbody : s.extract 0 (m + 1) = body ((bl s).headD 0).toNat (txt (sev (tf t.size)) ++ t) := by
        apply ba_ext
        rw [bl_sub, bl_body, bl_append, hs]
        simp only [List.take_succ_cons, List.headD_cons, ofNat_self, txt_bl]
        rw [t4]
      unfold shut
      rw [← hbody, ← h5]
      apply ba_ext
      rw [bl_append, bl_sub, bl_sub, bl_cut]
      have e : m + 5 - (m + 1) = 4 := by omega
      rw [e, ← List.take_add]
    · rw [if_pos (by simpa using h5)] at h; simp at h
  · rw [if_pos (by simpa using h3)] at h
    simp only [Prod.mk.injEq] at h
    exact absurd h.2.2.2 h3

/-- What is put is read, whatever stands behind it. -/
theorem put_take {k : Nat} {p : ByteArray} (b : ByteArray) (h0 : 0 < k) (h1 : k < 256) (hp : p.size ≤ 65536) :
    takeF (shut (body k (txt (sev (tf p.size)) ++ p)) ++ b) = (k, p, (shut (body k (txt (sev (tf p.size)) ++ p))).size, 0) := by
  obtain ⟨q, hq⟩ : ∃ q, txt (sev (tf p.size)) ++ p = q := ⟨_, rfl⟩
  have hqs : q.size = (sev (tf p.size)).length + p.size := by rw [← hq, ByteArray.size_append, txt_size]
  rw [hq]
  have e1 : shut (body k q) ++ b = body k (q ++ (tl (body k q) ++ b)) := by
    apply ba_ext
    unfold shut
    rw [bl_append, bl_append, bl_body, bl_body, bl_append, bl_append, List.cons_append, List.cons_append, List.append_assoc]
  have hsz : (shut (body k q) ++ b).size = q.size + 5 + b.size := by rw [ByteArray.size_append, shut_size, body_size]; omega
  have hh : ((bl (shut (body k q) ++ b)).headD 0).toNat = k := by
    rw [e1, bl_body, List.headD_cons, ofNat_toNat h1]
  obtain ⟨t, ht1, ht2, _⟩ := text_back (s := p) (b := tl (body k q) ++ b) (by omega)
  rw [putO_fine hp, hq] at ht1
  obtain rfl : q = t := congrArg Prod.fst ht1
  have hx : textO ((shut (body k q) ++ b).extract 1 (shut (body k q) ++ b).size) = (p, q.size, 0) := by
    rw [← ht2]
    refine congrArg textO (ba_ext ?_)
    rw [bl_extract, e1, bl_body, List.drop_succ_cons, List.drop_zero]
  have hcut : (shut (body k q) ++ b).extract 0 (q.size + 1) = body k q := by
    apply ba_ext
    have hl : (bl (body k q)).length = q.size + 1 := by rw [← size_bl, body_size]; omega
    unfold shut
    rw [bl_sub, bl_append, bl_append, List.append_assoc, ← hl, List.take_left]
  have htl : (shut (body k q) ++ b).extract (q.size + 1) (q.size + 5) = tl (body k q) := by
    apply ba_ext
    have hl : (bl (body k q)).length = q.size + 1 := by rw [← size_bl, body_size]; omega
    unfold shut
    rw [bl_cut, bl_append, bl_append, List.append_assoc, ← hl, List.drop_left, hl, show q.size + 5 - (q.size + 1) = 4 by omega]
    have h4 : (bl (tl (body k q))).length = 4 := by rw [bl_tl, tailL_length]
    rw [← h4, List.take_left]
  have hn : (shut (body k q)).size = q.size + 5 := by rw [shut_size, body_size]; omega
  rw [hn]
  exact takeF_fine (by omega) (by omega) hx (by omega) (by rw [hcut, htl])
theorem append_none (a : ByteArray) : a ++ txt [] = a := by
  apply ba_ext
  rw [bl_append, txt_bl, List.append_nil]
theorem put_take' {k : Nat} {p : ByteArray} (h0 : 0 < k) (h1 : k < 256) (hp : p.size ≤ 65536) :
    takeF (shut (body k (txt (sev (tf p.size)) ++ p))) = (k, p, (shut (body k (txt (sev (tf p.size)) ++ p))).size, 0) := by
  have := put_take (txt []) h0 h1 hp
  rwa [append_none] at this
/-- A place other than the error's. -/
theorem take_bad {s p : ByteArray} {k n : Nat} {c : Int} (h : takeF s = (k, p, n, c)) (hc : c ≠ 0) : k = 0 ∧ p = txt [] ∧ n = 0 := by
  unfold takeF at h
  split at h
  · simp only [Prod.mk.injEq] at h; exact ⟨h.1.symm, h.2.1.symm, h.2.2.1.symm⟩
  split at h
  · simp only [Prod.mk.injEq] at h; exact ⟨h.1.symm, h.2.1.symm, h.2.2.1.symm⟩
  split at h
  · simp only [Prod.mk.injEq] at h; exact ⟨h.1.symm, h.2.1.symm, h.2.2.1.symm⟩
  split at h
  · simp only [Prod.mk.injEq] at h; exact ⟨h.1.symm, h.2.1.symm, h.2.2.1.symm⟩
  split at h
  · simp only [Prod.mk.injEq] at h; exact ⟨h.1.symm, h.2.1.symm, h.2.2.1.symm⟩
  · simp only [Prod.mk.injEq] at h; exact absurd h.2.2.2.symm hc

theorem extract_split (t : ByteArray) (n : Nat) : t.extract 0 n ++ t.extract n t.size = t := by
  apply ba_ext
  rw [bl_append, bl_sub, bl_extract, List.take_append_drop]
/-- No beginning of a frame but all of it is one. -/
theorem torn {k at_ : Nat} {p : ByteArray} (h0 : 0 < k) (h1 : k < 256) (hp : p.size ≤ 65536) (hat : at_ < (shut (body k (txt (sev (tf p.size)) ++ p))).size) :
    (takeF ((shut (body k (txt (sev (tf p.size)) ++ p))).extract 0 at_)).2.2.2 ≠ 0 := by
  intro hc
  obtain ⟨t, et⟩ : ∃ t, shut (body k (txt (sev (tf p.size)) ++ p)) = t := ⟨_, rfl⟩
  have hall := put_take' h0 h1 hp
  rw [et] at hc hat hall
  obtain ⟨k', p', n', hx⟩ : ∃ k' p' n', takeF (t.extract 0 at_) = (k', p', n', 0) := ⟨_, _, _, by rw [← hc]⟩
  obtain ⟨a0, a1, a2, a3, _, a5⟩ := take_put hx
  have hsz : (t.extract 0 at_).size = at_ := by rw [ByteArray.size_extract]; omega
  rw [hsz] at a3
  have e : (t.extract 0 at_).extract 0 n' = t.extract 0 n' := by
    apply ba_ext
    rw [bl_sub, bl_sub, bl_sub, List.take_take, Nat.min_eq_left a3]
  rw [e] at a5
  have h2 := put_take (t.extract n' t.size) a0 a1 a2
  rw [← a5, extract_split, hall] at h2
  simp only [Prod.mk.injEq] at h2
  have h3 : (t.extract 0 n').size = n' := by rw [ByteArray.size_extract]; omega
  omega
theorem cons_take (c : UInt8) (y : List UInt8) {n : Nat} (h : 0 < n) : (c :: y).take n = c :: y.take (n - 1) := by
  obtain ⟨m, rfl⟩ : ∃ m, n = m + 1 := ⟨n - 1, by omega⟩
  rw [List.take_succ_cons, Nat.add_sub_cancel]
/-- Of two frames of as many bytes none is the other one but for one byte. -/
theorem one_byte {u v : ByteArray} {x y : List UInt8} {c d : UInt8} (h1 : bl (shut u) = x ++ c :: y) (h2 : bl (shut v) = x ++ d :: y) : c = d := by
  have hs1 := sum.sm_lt (bl u)
  have hs2 := sum.sm_lt (bl v)
  unfold shut at h1 h2
  rw [bl_append, bl_tl] at h1 h2
  have l1 := congrArg List.length h1
  have l2 := congrArg List.length h2
  simp only [List.length_append, List.length_cons, tailL_length] at l1 l2
  rcases Nat.lt_or_ge x.length (bl u).length with h | h
  · -- the byte is one of those that are summed
    have e1 : bl u = x ++ c :: y.take ((bl u).length - x.length - 1) := by
      have := congrArg (List.take (bl u).length) h1
      rwa [List.take_left, List.take_append, List.take_of_length_le (by omega), cons_take _ _ (by omega)] at this
    have e2 : bl v = x ++ d :: y.take ((bl u).length - x.length - 1) := by
      have := congrArg (List.take (bl v).length) h2
      rw [List.take_left, List.take_append, List.take_of_length_le (by omega), cons_take _ _ (by omega)] at this
      rwa [show (bl v).length - x.length - 1 = (bl u).length - x.length - 1 by omega] at this
    have d1 := congrArg (List.drop (bl u).length) h1
    have d2 := congrArg (List.drop (bl v).length) h2
    rw [List.drop_left, List.drop_append, List.drop_eq_nil_of_le (by omega), List.nil_append] at d1 d2
    obtain ⟨m, hm⟩ : ∃ m, (bl u).length - x.length = m + 1 := ⟨(bl u).length - x.length - 1, by omega⟩
    have hm' : (bl v).length - x.length = m + 1 := by omega
    rw [hm, List.drop_succ_cons] at d1
    rw [hm', List.drop_succ_cons] at d2
    have hsum := tailL_inj hs1 hs2 (d1.trans d2.symm)
    rw [e1, e2] at hsum
    exact sum.sm_spoilt hsum
  · have e1 : bl u = x.take (bl u).length := by
      have := congrArg (List.take (bl u).length) h1
      rwa [List.take_left, List.take_append, Nat.sub_eq_zero_of_le h, List.take_zero, List.append_nil] at this
    have e2 : bl v = x.take (bl v).length := by
      have := congrArg (List.take (bl v).length) h2
      rwa [List.take_left, List.take_append, Nat.sub_eq_zero_of_le (by omega), List.take_zero, List.append_nil] at this
    have hll : (bl v).length = (bl u).length := by omega
    rw [hll] at e2
    rw [← e1] at e2
    rw [e2, h1] at h2
    have := List.append_cancel_left h2
    simp only [List.cons.injEq] at this
    exact this.1
end Go.Proofs.Ytbnnbaoimidfnaa.frm

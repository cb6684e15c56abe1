/- Plain: what a row of bytes comes to; how two rows' sums are one; no program. -/
namespace Go.Proofs.Ytbnnbaoimidfnaa.sum

/-- A text's bytes. -/
abbrev bl (s : ByteArray) : List UInt8 := s.data.toList
theorem bl_length (s : ByteArray) : (bl s).length = s.size := rfl
theorem byte_lt (b : UInt8) : b.toNat < 256 := b.toNat_lt
theorem drop_byte (s : ByteArray) (k : Nat) (h : k < s.size) : (bl s).drop k = s[k] :: (bl s).drop (k + 1) := by
  rw [List.drop_eq_getElem_cons (by rw [bl_length]; exact h)]
  rfl

/-- One byte more. -/
def st (x : Nat × Nat) (c : UInt8) : Nat × Nat := ((x.1 + c.toNat) % 65521, (x.2 + (x.1 + c.toNat) % 65521) % 65521)
def run (x : Nat × Nat) (l : List UInt8) : Nat × Nat := l.foldl st x
theorem run_nil (x : Nat × Nat) : run x [] = x := rfl
theorem run_cons (x : Nat × Nat) (c : UInt8) (l : List UInt8) : run x (c :: l) = run (st x c) l := rfl
theorem run_append (x : Nat × Nat) (l m : List UInt8) : run x (l ++ m) = run (run x l) m := List.foldl_append ..
/-- Both halves of a number; the number of both halves. -/
def hv (n : Nat) : Nat × Nat := (n % 65536, n / 65536)
def tg (x : Nat × Nat) : Nat := 65536 * x.2 + x.1
def Half (x : Nat × Nat) : Prop := x.1 < 65536 ∧ x.2 < 65536
theorem hv_tg {x : Nat × Nat} (h : Half x) : hv (tg x) = x := by
  obtain ⟨a, b⟩ := x
  obtain ⟨h1, h2⟩ := h
  simp only at h1 h2
  unfold hv tg
  simp only [Prod.mk.injEq]
  omega
theorem tg_hv (n : Nat) : tg (hv n) = n := by unfold tg hv; simp only; omega
theorem tg_lt {x : Nat × Nat} (h : Half x) : tg x < 4294967296 := by
  obtain ⟨h1, h2⟩ := h
  unfold tg
  omega
theorem half_hv {n : Nat} (h : n < 4294967296) : Half (hv n) := by unfold Half hv; simp only; omega
theorem half_st (x : Nat × Nat) (c : UInt8) : Half (st x c) := by unfold Half st; simp only; omega
theorem half_run : ∀ (l : List UInt8) {x : Nat × Nat}, Half x → Half (run x l)
  | [], _, h => h
  | c :: l, x, _ => half_run l (half_st x c)
/-- What a number goes on to. -/
def more (n : Nat) (l : List UInt8) : Nat := tg (run (hv n) l)
theorem more_lt {n : Nat} (h : n < 4294967296) (l : List UInt8) : more n l < 4294967296 := tg_lt (half_run l (half_hv h))
theorem more_nil (n : Nat) : more n [] = n := tg_hv n
theorem more_append {n : Nat} (h : n < 4294967296) (l m : List UInt8) : more (more n l) m = more n (l ++ m) := by
  unfold more
  rw [hv_tg (half_run l (half_hv h)), run_append]
/-- Two rows' sums. -/
def joined (n m k : Nat) : Nat := tg ((m % 65536 + (n % 65536 + 65520)) % 65521, (n / 65536 + m / 65536 + k % 65521 * (n % 65536 + 65520)) % 65521)

/-- All bytes together; and what they were behind each one. -/
def su : List UInt8 → Nat
  | [] => 0
  | c :: l => c.toNat + su l
def wt : List UInt8 → Nat
  | [] => 0
  | c :: l => (l.length + 1) * c.toNat + wt l
theorem su_append (l m : List UInt8) : su (l ++ m) = su l + su m := by
  induction l with
  | nil => simp [su]
  | cons c l ih => rw [List.cons_append, su, su, ih]; omega
theorem wt_append (l m : List UInt8) : wt (l ++ m) = wt l + m.length * su l + wt m := by
  induction l with
  | nil => simp [wt, su]
  | cons c l ih =>
    rw [List.cons_append, wt, wt, su, ih, List.length_append, Nat.mul_add]
    have e : (l.length + m.length + 1) * c.toNat = (l.length + 1) * c.toNat + m.length * c.toNat := by rw [← Nat.add_mul]; congr 1; omega
    omega
theorem run_eq : ∀ (l : List UInt8) {a b : Nat}, a < 65521 → b < 65521 → run (a, b) l = ((a + su l) % 65521, (b + l.length * a + wt l) % 65521)
  | [], a, b, ha, hb => by
    rw [run_nil, su, wt, List.length_nil, Nat.zero_mul]
    simp only [Nat.add_zero]
    rw [Nat.mod_eq_of_lt ha, Nat.mod_eq_of_lt hb]
  | c :: l, a, b, ha, hb => by
    rw [run_cons]
    unfold st
    simp only
    rw [run_eq l (Nat.mod_lt _ (by omega)) (Nat.mod_lt _ (by omega)), su, wt, List.length_cons]
    obtain ⟨q, hq⟩ : ∃ q, (a + c.toNat) / 65521 = q := ⟨_, rfl⟩
    obtain ⟨r, hr⟩ : ∃ r, (a + c.toNat) % 65521 = r := ⟨_, rfl⟩
    have hd : a + c.toNat = r + 65521 * q := by omega
    rw [hr]
    have e : (l.length + 1) * a + ((l.length + 1) * c.toNat + wt l) = (l.length * r + 65521 * (l.length * q)) + (r + 65521 * q) + wt l := by
      rw [← Nat.add_assoc, ← Nat.mul_add, hd, Nat.add_mul, Nat.one_mul, Nat.mul_add, Nat.mul_left_comm]
    rw [Nat.add_assoc b ((l.length + 1) * a), e]
    obtain ⟨M, hM⟩ : ∃ M, l.length * r = M := ⟨_, rfl⟩
    obtain ⟨K, hK⟩ : ∃ K, l.length * q = K := ⟨_, rfl⟩
    rw [hM, hK]
    refine Prod.ext ?_ ?_ <;> simp only <;> omega

/-- The sum. -/
def sm (l : List UInt8) : Nat := more 1 l
theorem sm_lt (l : List UInt8) : sm l < 4294967296 := more_lt (by omega) l
theorem sm_more (l m : List UInt8) : more (sm l) m = sm (l ++ m) := more_append (by omega) l m
theorem hv_one : hv 1 = (1, 0) := rfl
theorem hv_sm (l : List UInt8) : hv (sm l) = ((1 + su l) % 65521, (l.length + wt l) % 65521) := by
  unfold sm more
  rw [hv_tg (half_run l (half_hv (by omega))), hv_one, run_eq l (by omega) (by omega), Nat.mul_one, Nat.zero_add]
theorem sm_eq (l : List UInt8) : sm l = tg ((1 + su l) % 65521, (l.length + wt l) % 65521) := by rw [← hv_sm, tg_hv]
theorem times_mod (n s : Nat) : (n % 65521 * ((1 + s) % 65521 + 65520)) % 65521 = (n * s) % 65521 := by
  have h : ((1 + s) % 65521 + 65520) % 65521 = s % 65521 := by omega
  rw [Nat.mul_mod, h, Nat.mod_mod, ← Nat.mul_mod]
/-- The sum of two rows is told by their sums. -/
theorem sm_joined (l m : List UInt8) : joined (sm l) (sm m) m.length = sm (l ++ m) := by
  have h1 := congrArg Prod.fst (hv_sm l)
  have h2 := congrArg Prod.snd (hv_sm l)
  have h3 := congrArg Prod.fst (hv_sm m)
  have h4 := congrArg Prod.snd (hv_sm m)
  simp only [hv] at h1 h2 h3 h4
  unfold joined
  rw [h1, h2, h3, h4, sm_eq, su_append, wt_append, List.length_append]
  have ht := times_mod m.length (su l)
  obtain ⟨T, hT⟩ : ∃ T, m.length % 65521 * ((1 + su l) % 65521 + 65520) = T := ⟨_, rfl⟩
  obtain ⟨U, hU⟩ : ∃ U, m.length * su l = U := ⟨_, rfl⟩
  rw [hT, hU] at ht
  rw [hT, hU]
  refine congrArg tg (Prod.ext ?_ ?_) <;> simp only <;> omega
/-- Bytes of which one is another one. -/
theorem sm_spoilt {u v : List UInt8} {c d : UInt8} (h : sm (u ++ c :: v) = sm (u ++ d :: v)) : c = d := by
  have h1 := congrArg Prod.fst (hv_sm (u ++ c :: v))
  have h2 := congrArg Prod.fst (hv_sm (u ++ d :: v))
  rw [h] at h1
  have h3 := h1.symm.trans h2
  simp only [su_append, su] at h3
  have hc := byte_lt c
  have hd := byte_lt d
  exact UInt8.toNat_inj.1 (by omega)
end Go.Proofs.Ytbnnbaoimidfnaa.sum

/- What May, Readers and Find answer. -/
import Derived.Test.YtjmfneljgogohaaDoorJbO
namespace Go.Proofs.YtjmfneljgogohaaDoor.jb
set_option linter.unusedSimpArgs false
set_option linter.unusedVariables false
open Go.RowKit nam exp

theorem many3 (k : Nat) : (askR k).many ≤ 3 := by
  match k with
  | 0 | 1 | 2 | 3 | 4 | 5 | 6 | 7 | 8 | 9 => exact of_decide_eq_true rfl
  | k + 10 => exact of_decide_eq_true (show decide (ask0.many ≤ 3) = true from rfl)
theorem may_ins {nd : Nd} {p : Nat} (h : mayB nd p = true) : (∀ i ∈ nd.ins, 0 ≤ i ∧ i < p) ∧ nd.ins.length ≤ 3 := by
  have h1 := (mayB_iff.1 h).2.2.1
  refine ⟨fun i hi => takesIn_mem h1 hi, ?_⟩
  unfold takesInB at h1
  rw [Bool.and_eq_true, decide_eq_true_eq] at h1
  have := many3 nd.kind
  omega
theorem bounded_len {par : Int} {l : List Nd} (h : boundedB par l = true) : l.length ≤ 12 ∧ ∀ nd ∈ l, nd.x.size ≤ 1000 := by
  unfold boundedB at h
  rw [Bool.and_eq_true, decide_eq_true_eq, decide_eq_true_eq] at h
  exact ⟨h.1.2.2.2, fun nd hn => by have := room_mem h.2 nd hn; omega⟩
theorem alone_all {l : List Nd} (h : (aloneO l).2 = 0) : (∀ k (hk : k < l.length), ∀ i ∈ l[k].ins, 0 ≤ i ∧ i < k) ∧ ∀ nd ∈ l, nd.ins.length ≤ 1000 := by
  refine ⟨fun k hk => (may_ins (alone_ok h hk)).1, fun nd hn => ?_⟩
  obtain ⟨k, hk, rfl⟩ := List.mem_iff_getElem.1 hn
  have := (may_ins (alone_ok h hk)).2
  omega
set_option maxHeartbeats 1600000 in
set_option maxRecDepth 1000000 in
theorem may_job {w : World} {v : Value} {l : List Nd} (par : Int) (ht : Tab w) (h : Nodes w v l) :
    Calls Tryd.prog 8 #[.agg #[.int .i64 par, v]] w fun e w' => e = .returned (.tuple #[.int .i64 (mayO par l).1, .int .i64 (mayO par l).2]) ∧ Below w.heap.size w w' := by
  obtain ⟨a, c, rfl, -, -⟩ := id h
  obtain ⟨n, hn⟩ : ∃ n, l.length = n := ⟨_, rfl⟩
  rw [hn] at h ⊢
  obtain ⟨W, hW⟩ : ∃ W, w.alloc (.cells #[.int .i64 par, .slice a n c] 33) = W := ⟨_, rfl⟩
  have hwb : Below w.heap.size w W := by rw [← hW]; exact below_made _ _
  obtain ⟨c0, c1⟩ := box2 hW
  have HBO := Lib.hid (bounded_any par (h.on hwb))
  have HB := Lib.hid hwb; have HT := Lib.hid (ht.on hwb); have HNS := Lib.hid (h.on hwb)
  have HC0 := Lib.hid c0; have HC1 := Lib.hid c1
  obtain ⟨bb, hbb⟩ : ∃ b, boundedB par l = b := ⟨_, rfl⟩
  rw [hbb] at HBO
  cases bb with
  | false =>
    have HR : Hid (mayO par l = (0, 2)) := Lib.hid (by unfold mayO; rw [if_pos hbb])
    rw [HR.out]
    clear ht h hwb hn hbb HR
    go_enter Tryd.func8, Tryd.ntmps8
    go_wp2_with fail
    refine HBO.out.mono ?_
    rintro e w1 ⟨rfl, hb1⟩
    have HX := Lib.hid (HB.out.trans (hb1.mono HB.out.size)); clear hb1
    go_wp2_with fail
    go_ret2
    exact ⟨rfl, HX.out⟩
  | true =>
    obtain ⟨hl12, hsz⟩ := bounded_len hbb
    have HAL : Hid (∀ w', Below W.heap.size W w' → Calls Tryd.prog 19 #[.slice a n c] w' fun e w'' => e = .returned (.tuple #[.int .i64 (aloneO l).1, .int .i64 (aloneO l).2]) ∧ Below w'.heap.size w' w'') := Lib.hid (fun w' hb => alone_any (HT.out.on hb) (HNS.out.on hb) (by omega) (fun nd hn => by have := hsz nd hn; omega))
    obtain ⟨p, hp⟩ : ∃ p, (aloneO l).1 = p := ⟨_, rfl⟩
    obtain ⟨q, hq⟩ : ∃ q, (aloneO l).2 = q := ⟨_, rfl⟩
    rw [hp, hq] at HAL
    by_cases hq0 : q = 0
    · have HTO : Hid (∀ w', Below W.heap.size W w' → Calls Tryd.prog 20 #[.slice a n c] w' fun e w'' => e = .returned (.tuple #[.int .i64 (togetherO l).1, .int .i64 (togetherO l).2]) ∧ Below w'.heap.size w' w'') := Lib.hid (fun w' hb => by
        have := alone_all (l := l) (by rw [hq]; exact hq0)
        exact together_any (HNS.out.on hb) (by omega) this.1 this.2)
      have HR : Hid (mayO par l = togetherO l) := Lib.hid (by unfold mayO; rw [if_neg (by rw [hbb]; simp), if_neg (by rw [hq]; simp [hq0])])
      rw [HR.out]
      obtain ⟨p2, hp2⟩ : ∃ p, (togetherO l).1 = p := ⟨_, rfl⟩
      obtain ⟨q2, hq2⟩ : ∃ q, (togetherO l).2 = q := ⟨_, rfl⟩
      rw [hp2, hq2] at HTO ⊢
      subst hq0
      clear ht h hwb hn hbb HR hp hq hp2 hq2 hl12 hsz
      go_enter Tryd.func8, Tryd.ntmps8
      go_wp2_with fail
      refine HBO.out.mono ?_
      rintro e w1 ⟨rfl, hb1⟩
      have e1 := cell_on HC1.out hb1
      have HX := Lib.hid hb1; clear hb1 c0 c1
      have HA1 := Lib.hid (HAL.out w1 HX.out)
      go_wp2_with fail
      refine HA1.out.mono ?_
      rintro e w2 ⟨rfl, hb2⟩
      have HX2 := Lib.hid (HX.out.trans (hb2.mono HX.out.size)); clear hb2 e1
      have e1 := cell_on HC1.out HX2.out
      have HA2 := Lib.hid (HTO.out w2 HX2.out)
      go_wp2_with fail
      refine HA2.out.mono ?_
      rintro e w3 ⟨rfl, hb3⟩
      have HX3 := Lib.hid (HB.out.trans ((HX2.out.trans (hb3.mono HX2.out.size)).mono HB.out.size)); clear hb3 e1
      go_wp2_with fail
      go_ret2
      exact ⟨rfl, HX3.out⟩
    · have HR : Hid (mayO par l = (p, q)) := Lib.hid (by unfold mayO; rw [if_neg (by rw [hbb]; simp), if_pos (by rw [hq]; exact hq0), ← hp, ← hq])
      rw [HR.out]
      have hne : (q != 0) = true := by simp [hq0]
      clear ht h hwb hn hbb HR hp hq hl12 hsz hq0
      go_enter Tryd.func8, Tryd.ntmps8
      go_wp2_with fail
      refine HBO.out.mono ?_
      rintro e w1 ⟨rfl, hb1⟩
      have e1 := cell_on HC1.out hb1
      have HX := Lib.hid hb1; clear hb1 c0 c1
      have HA1 := Lib.hid (HAL.out w1 HX.out)
      go_wp2_with fail
      refine HA1.out.mono ?_
      rintro e w2 ⟨rfl, hb2⟩
      have HX2 := Lib.hid (HB.out.trans ((HX.out.trans (hb2.mono HX.out.size)).mono HB.out.size)); clear hb2 e1
      go_wp2_with fail
      go_ret2
      exact ⟨rfl, HX2.out⟩
set_option maxHeartbeats 800000 in
set_option maxRecDepth 1000000 in
theorem readers_job {w : World} {v : Value} {l : List Nd} (par p : Int) (ht : Tab w) (h : Nodes w v l) :
    Calls Tryd.prog 11 #[.agg #[.int .i64 par, v], .int .i64 p] w (PlPost (readersO par l p) w) := by
  obtain ⟨a, c, rfl, -, -⟩ := id h
  obtain ⟨n, hn⟩ : ∃ n, l.length = n := ⟨_, rfl⟩
  rw [hn] at h ⊢
  obtain ⟨W, hW⟩ : ∃ W, w.alloc (.cells #[.int .i64 par, .slice a n c] 33) = W := ⟨_, rfl⟩
  have hwb : Below w.heap.size w W := by rw [← hW]; exact below_made _ _
  obtain ⟨c0, c1⟩ := box2 hW
  have HM := Lib.hid (may_job par (ht.on hwb) (h.on hwb))
  have HB := Lib.hid hwb; have HNS := Lib.hid (h.on hwb); have HC1 := Lib.hid c1
  obtain ⟨q0, hq0⟩ : ∃ q, (mayO par l).1 = q := ⟨_, rfl⟩
  obtain ⟨q, hq⟩ : ∃ q, (mayO par l).2 = q := ⟨_, rfl⟩
  rw [hq, hq0] at HM
  by_cases hqz : q = 0
  · have hok : (mayO par l).2 = 0 := by rw [hq]; exact hqz
    have hbd : boundedB par l = true ∧ (aloneO l).2 = 0 := by
      unfold mayO at hok
      by_cases h1 : boundedB par l = false
      · rw [if_pos h1] at hok; simp at hok
      · rw [if_neg h1] at hok
        by_cases h2 : (aloneO l).2 = 0
        · exact ⟨by simpa using h1, h2⟩
        · rw [if_pos h2] at hok; exact absurd hok h2
    have HR : Hid (readersO par l p = readersI l p) := Lib.hid (by unfold readersO; rw [if_neg (by rw [hok]; simp)])
    have HRD : Hid (∀ w', Below W.heap.size W w' → Calls Tryd.prog 22 #[.slice a n c, .int .i64 p] w' (PlPost (readersI l p) w')) := Lib.hid (fun w' hb =>
      readers_any p (HNS.out.on hb) (by have := (bounded_len hbd.1).1; omega) (fun nd hn => by have := (alone_all hbd.2).2 nd hn; omega))
    rw [HR.out]
    subst hqz
    clear ht h hwb hn hok hbd HR hq hq0
    go_enter Tryd.func11, Tryd.ntmps11
    go_wp2_with fail
    refine HM.out.mono ?_
    rintro e w1 ⟨rfl, hb1⟩
    have e1 := cell_on HC1.out hb1
    have HX := Lib.hid (HB.out.trans (hb1.mono HB.out.size))
    have HA1 := Lib.hid (HRD.out w1 hb1)
    clear hb1 c0 c1
    go_wp2_with fail
    refine HA1.out.mono ?_
    rintro e w2 hp
    obtain ⟨u, rfl, h2, h3⟩ := PlPost.back HX.out hp
    have HY : Hid (PlPost (readersI l p) w (.returned u) w2) := Lib.hid ⟨u, rfl, h2, h3⟩
    clear hp h2 h3
    go_wp2_with fail
    go_ret
    exact HY.out
  · have HR : Hid (readersO par l p = []) := Lib.hid (by unfold readersO; rw [if_pos (by rw [hq]; exact hqz)])
    rw [HR.out]
    have hne : (q != 0) = true := by simp [hqz]
    clear ht h hwb hn HR hq hq0 hqz
    go_enter Tryd.func11, Tryd.ntmps11
    go_wp2_with fail
    refine HM.out.mono ?_
    rintro e w1 ⟨rfl, hb1⟩
    have HX := Lib.hid (HB.out.trans (hb1.mono HB.out.size)); clear hb1
    go_wp2_with fail
    go_ret
    exact ⟨_, rfl, World.ownsRow_nil _ _ _ _, HX.out⟩
theorem find_job {w : World} {v : Value} {l : List Nd} (par : Int) (uid : ByteArray) (h : Nodes w v l) (hl : l.length ≤ 1000000) :
    Calls Tryd.prog 12 #[.agg #[.int .i64 par, v], .string uid] w fun e w' => e = .returned (.int .i64 (findI l uid)) ∧ Below w.heap.size w w' := by
  obtain ⟨W, hW⟩ : ∃ W, w.alloc (.cells #[.int .i64 par, v] 33) = W := ⟨_, rfl⟩
  have hwb : Below w.heap.size w W := by rw [← hW]; exact below_made _ _
  obtain ⟨c0, c1⟩ := box2 hW
  have HN := Lib.hid (named_any uid (h.on hwb) hl)
  have HB := Lib.hid hwb
  clear h hwb
  go_enter Tryd.func12, Tryd.ntmps12
  go_wp2_with fail
  refine HN.out.mono ?_
  rintro e w1 ⟨rfl, hb1⟩
  have HX := Lib.hid (HB.out.trans (hb1.mono HB.out.size)); clear hb1
  go_wp2_with fail
  go_ret
  exact ⟨rfl, HX.out⟩
end Go.Proofs.YtjmfneljgogohaaDoor.jb

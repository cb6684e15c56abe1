/- What changelingref12.May answers: whether a job may be. -/
import Derived.Test.YtnelfokfgnikfaaDoorMRj
import Derived.Test.YtnelfokfgnikfaaDoorMBy
import Derived.BigQuiet
namespace Go.Proofs.YtnelfokfgnikfaaDoor.rf
set_option linter.unusedSimpArgs false
set_option linter.unusedVariables false
open Go.RowKit nam exp jb

theorem str_no {a b : ByteArray} (h : a ≠ b) : (a.toList == b.toList) = false := byt.str_ne h
/-- What makes a node not hang together with the others: its kind, its place, how many there are, how many read it, the flats ahead, its ways. -/
def ShapeP (K k n m fl : Nat) (y : Int) : Prop := (¬ (K = 1 ↔ k = 0)) ∨ (¬ (K = 9 ↔ k + 1 = n)) ∨ (¬ k + 1 = n ∧ ¬ (1 ≤ m ∧ m ≤ 3)) ∨ (K = 4 ∧ 2 ≤ fl) ∨ 64 < y
theorem shape_P {l : List Nd} {k : Nat} {nd : Nd} : shapeB l k nd = true ↔ ShapeP nd.kind k l.length (readersI l k).length (flatsN (l.take k)) (wayOf nd (waysL l k)) := shape_iff
def MayPost (par : Int) (l : List Nd) (w : World) (e : Ending) (w' : World) : Prop := ∃ (i er : Int), e = .returned (.tuple #[.int .i64 i, .int .i64 er]) ∧ (er = 0 ↔ (mayO par l).2 = 0) ∧ Below w.heap.size w w'
theorem post_no {par : Int} {l : List Nd} {w w' : World} {i er : Int} (h : (mayO par l).2 ≠ 0) (he : er ≠ 0) (hb : Below w.heap.size w w') : MayPost par l w (.returned (.tuple #[.int .i64 i, .int .i64 er])) w' :=
  ⟨i, er, rfl, ⟨fun h1 => absurd h1 he, fun h1 => absurd h1 h⟩, hb⟩
theorem post_yes {par : Int} {l : List Nd} {w w' : World} {i : Int} (h : (mayO par l).2 = 0) (hb : Below w.heap.size w w') : MayPost par l w (.returned (.tuple #[.int .i64 i, .int .i64 0])) w' :=
  ⟨i, 0, rfl, ⟨fun _ => h, fun _ => rfl⟩, hb⟩
set_option maxHeartbeats 6400000 in
set_option maxRecDepth 1000000 in
theorem rmay_job {w : World} {v : Value} {l : List Nd} (par : Int) (h : Nodes w v l) (hl : l.length ≤ 12) (hs : ∀ nd ∈ l, nd.uid.size ≤ 1000000 ∧ nd.ins.length ≤ 1000 ∧ nd.x.size ≤ 1000000) :
    Calls Tryd.prog 23 #[.agg #[.int .i64 par, v]] w (MayPost par l w) := by
  obtain ⟨i0, hi0, hz0, hz1, hz2⟩ := info_parts info3
  obtain ⟨N, hN⟩ : ∃ N, w.heap.size = N := ⟨_, rfl⟩
  obtain ⟨n, hn⟩ : ∃ n, l.length = n := ⟨_, rfl⟩
  have HN := Lib.hid hn
  have HV := Lib.hid h
  obtain ⟨a, c, rfl, hlc, h2⟩ := h
  obtain ⟨W, hW⟩ : ∃ W, w.alloc (.cells #[.int .i64 par, .slice a l.length c] 24) = W := ⟨_, rfl⟩
  have hwb : Below w.heap.size w W := by rw [← hW]; exact below_made _ _
  obtain ⟨c0, c1⟩ := box2 hW
  rw [hN] at c0 c1
  rw [hn] at c1 hl hW hlc HV
  rw [hn]
  have HV1 := Lib.hid (HV.out.on hwb)
  have HB := Lib.hid hwb; have HSS := Lib.hid hs
  have HC : Hid (∀ wr, Below W.heap.size W wr → 0 < n → ∃ b, a = some ⟨b, 0, none⟩ ∧ ∀ i (h : i < l.length), NodeAt wr b (i * 7) l[i]) := Lib.hid (fun wr hb h0 => by
    obtain ⟨b, h3, h4⟩ := h2 (by rw [HN.out]; exact h0)
    exact ⟨b, h3, fun i hi => (h4 i hi).on (HB.out.trans (hb.mono HB.out.size))⟩)
  clear h2 hwb hn hs
  have hn12 : (n : Int) ≤ 12 := by omega
  go_enter Tryd.func23, Tryd.ntmps23
  go_wp2_with fail
  go_loopg [5, 6] n (fun g v5 v6 wr => ∃ (k p : Nat), k + g = n ∧ v6 = .int .i64 (k : Int) ∧ v5 = .int .i64 (p : Int) ∧ p ≤ partsN (l.take k) ∧ (partsN (l.take k) ≤ 1000 → p = partsN (l.take k)) ∧ (1000 < partsN (l.take k) → 1000 < p) ∧ Below W.heap.size W wr)
  case atStart => exact ⟨0, 0, by omega, rfl, rfl, by omega, fun _ => by simp [partsN], fun h => by simp [partsN] at h, Below.refl _ _⟩
  case round =>
    rename World => wr
    obtain ⟨k, p, hk, rfl, rfl, hp1, hp2, hp3, hb⟩ := hrel
    have HBR := Lib.hid hb
    have c0r := cell_on c0 hb
    have c1r := cell_on c1 hb
    have hpn : partsN (l.take k) ≤ k * 1000000 := partsN_bound l (fun nd hn => (HSS.out nd hn).2.2) k
    have HPP := Lib.hid (And.intro hp1 (And.intro hp2 hp3))
    have hpb : (p : Int) ≤ 12000000 := by omega
    by_cases hkn : k < n
    · have hkl : k < l.length := by rw [HN.out]; exact hkn
      have hki : (k : Int) < (n : Int) := by omega
      obtain ⟨b, rfl, hat⟩ := HC.out wr hb (by omega)
      obtain ⟨-, vi, va, -, -, -, n3, n4, n5, -, -, hva⟩ := hat k hkl
      have HTK := Lib.hid (partsN_take l k hkl)
      obtain ⟨-, -, hxs⟩ := HSS.out _ (List.getElem_mem hkl)
      obtain ⟨nd, hnd⟩ : ∃ x, l[k] = x := ⟨_, rfl⟩
      rw [hnd] at n3 n4 hva HTK hxs
      obtain ⟨aa, ca, rfl, -⟩ := hva.form
      have HPT := Lib.hid (parts_any nd.x.size hxs nd.x (Nat.le_refl _) _ wr 1001 (by omega) (by omega) hva)
      unfold exV at HPT
      push_cast at HPT
      have HXS := Lib.hid hxs
      clear hb hat hva hxs hnd hp1 hp2 hp3 hpn hkl
      go_wp2_with fail
      refine HPT.out.mono ?_
      rintro e w1 ⟨q, rfl, hq, hb1⟩
      have HBQ := Lib.hid (HBR.out.trans (hb1.mono HBR.out.size))
      have HQ := Lib.hid hq
      have hqb : (q : Int) ≤ 1000000 := by have := hq.2.1; have := HXS.out; omega
      have HFIN : Hid (p + q ≤ partsN (l.take (k + 1)) ∧ (partsN (l.take (k + 1)) ≤ 1000 → p + q = partsN (l.take (k + 1))) ∧ (1000 < partsN (l.take (k + 1)) → 1000 < p + q)) := Lib.hid (by
        obtain ⟨q1, q2, q3, q4⟩ := HQ.out
        obtain ⟨p1, p2, p3⟩ := HPP.out
        have := HTK.out.1
        refine ⟨by omega, fun h => ?_, fun h => ?_⟩
        · have := p2 (by omega); have := q3 (by omega); omega
        · by_cases hc : 1000 < partsN (l.take k)
          · have := p3 hc; omega
          · have := p2 (by omega)
            by_cases hd : nd.x.size ≤ 1001
            · have := q3 hd; omega
            · have := q4 (by omega); omega)
      clear hb1 hq
      go_wp2_with fail
      go_roundg (gk - 1)
      case measure => omega
      case rel => exact ⟨k + 1, p + q, by omega, by go_num, by go_num, HFIN.out.1, HFIN.out.2.1, HFIN.out.2.2, HBQ.out⟩
    · have hki : ¬ (k : Int) < (n : Int) := by omega
      have HPE : Hid (partsN l ≤ 1000 ↔ p ≤ 1000) := Lib.hid (by
        have htk : l.take k = l := List.take_of_length_le (by rw [HN.out]; omega)
        rw [htk] at hp1 hp2 hp3
        constructor
        · intro h; have := hp2 h; omega
        · intro h
          by_cases hc : partsN l ≤ 1000
          · exact hc
          · have := hp3 (by omega); omega)
      have HFB := Lib.hid (HB.out.trans (HBR.out.mono HB.out.size))
      have g4 : decide ((n : Int) > 12) = false := by simp; omega
      clear hb hp1 hp2 hp3 hpn
      by_cases hpar1 : par < 1
      · have g1 : decide (par < 1) = true := by simp [hpar1]
        have HNO : Hid ((mayO par l).2 ≠ 0) := Lib.hid (no_bound (by omega))
        clear HPE
        go_wp2_with fail
        try rw [Exit.noGoto_ret]
        go_ret2
        exact post_no HNO.out (by decide) (by first | exact HFB.out | (rw [← hN]; exact HFB.out))
      have g1 : decide (par < 1) = false := by simp; omega
      by_cases hpar4 : par > 4
      · have g2 : decide (par > 4) = true := by simp [hpar4]
        have HNO : Hid ((mayO par l).2 ≠ 0) := Lib.hid (no_bound (by omega))
        clear HPE hpar1
        go_wp2_with fail
        try rw [Exit.noGoto_ret]
        go_ret2
        exact post_no HNO.out (by decide) (by first | exact HFB.out | (rw [← hN]; exact HFB.out))
      have g2 : decide (par > 4) = false := by simp; omega
      by_cases hn2 : n < 2
      · have g3 : decide ((n : Int) < 2) = true := by simp; omega
        have HNO : Hid ((mayO par l).2 ≠ 0) := Lib.hid (no_bound (by rw [HN.out]; omega))
        clear HPE hpar1 hpar4
        go_wp2_with fail
        try rw [Exit.noGoto_ret]
        go_ret2
        exact post_no HNO.out (by decide) (by first | exact HFB.out | (rw [← hN]; exact HFB.out))
      have g3 : decide ((n : Int) < 2) = false := by simp; omega
      by_cases hp1000 : p > 1000
      · have g5 : decide ((p : Int) > 1000) = true := by simp; omega
        have HNO : Hid ((mayO par l).2 ≠ 0) := Lib.hid (no_bound (by have := HPE.out; omega))
        clear HPE hpar1 hpar4 hn2
        go_wp2_with fail
        try rw [Exit.noGoto_ret]
        go_ret2
        exact post_no HNO.out (by decide) (by first | exact HFB.out | (rw [← hN]; exact HFB.out))
      have g5 : decide ((p : Int) > 1000) = false := by simp; omega
      have HBD : Hid (boundedB par l = true) := Lib.hid (bounded_iff.2 ⟨by omega, by omega, by rw [HN.out]; omega, by rw [HN.out]; omega, HPE.out.2 (by omega)⟩)
      clear HPE hpar1 hpar4 hp1000
      have hn0 : 0 < n := by omega
      go_wp2_with fail
      clear g1 g2 g3 g4 g5 c0r c1r
      go_loopg [7] n (fun g v7 w2 => ∃ k : Nat, k + g = n ∧ v7 = .int .i64 (k : Int) ∧ (∀ j, j < k → errAt l j = 0) ∧ Below W.heap.size W w2)
      case atStart => exact ⟨0, by omega, rfl, fun j h => by omega, HBR.out⟩
      case round =>
        rename Nat => G
        rename World => w2
        obtain ⟨k2, hk2, rfl, hall, hb2⟩ := hrel
        have HB2 := Lib.hid hb2
        have HAL := Lib.hid hall
        have HF2 := Lib.hid (HB.out.trans (HB2.out.mono HB.out.size))
        have c1r := cell_on c1 hb2
        by_cases hkn2 : k2 < n
        · have hkl : k2 < l.length := by rw [HN.out]; exact hkn2
          have hki2 : (k2 : Int) < (n : Int) := by omega
          obtain ⟨b, rfl, hat⟩ := HC.out w2 hb2 hn0
          obtain ⟨-, vi, va, n0, n1, n2, n3, n4, n5, n6, hvi, hva⟩ := hat k2 hkl
          obtain ⟨hus, his, hxs⟩ := HSS.out _ (List.getElem_mem hkl)
          have HEM := Lib.hid (@err_may l k2 hkl)
          have HEU : Hid (∀ (i : Nat) (hk : k2 < l.length) (hi : i < k2), (l[i]'(Nat.lt_trans hi hk)).uid = (l[k2]'hk).uid → errAt l k2 ≠ 0) := Lib.hid (fun i hk hi h => err_uid hk hi h)
          have HEZ := Lib.hid (@err_zero l k2 hkl)
          obtain ⟨nd, hnd⟩ : ∃ x, l[k2] = x := ⟨_, rfl⟩
          have HND : Hid (∀ h : k2 < l.length, l[k2] = nd) := Lib.hid (fun _ => hnd)
          rw [hnd] at n0 n1 n3 n4 n6 hvi hva hus his hxs HEM HEZ
          obtain ⟨ai, ci, hvie, -⟩ := id hvi
          obtain ⟨aa, ca, hvae, -⟩ := hva.form
          subst hvie
          subst hvae
          have HMY := Lib.hid (may_any (⟨_, _, rfl, hvi, hva⟩ : NodeIs w2 (nodeV nd _ _) nd) hus his hxs (p := k2) (by omega))
          obtain ⟨r, hr⟩ : ∃ b, mayB nd k2 = b := ⟨_, rfl⟩
          have HR := Lib.hid hr
          rw [hr] at HMY
          unfold nodeV at HMY
          have hkb : (k2 : Int) ≤ 12 := by omega
          clear hat hvi hva hus his hxs hr hall hb2
          cases r with
          | false =>
            have HNO : Hid ((mayO par l).2 ≠ 0) := Lib.hid (no_err hkl (HEM.out HR.out))
            clear hnd hkl
            go_wp2_with fail
            refine HMY.out.mono ?_
            rintro e w3 ⟨rfl, hb3⟩
            have HF3 := Lib.hid (HF2.out.trans (hb3.mono HF2.out.size))
            clear hb3
            go_wp2_with fail
            try rw [Exit.noGoto_ret]
            go_ret2
            exact post_no HNO.out (by decide) (by first | exact HF3.out | (rw [← hN]; exact HF3.out))
          | true =>
            clear hnd
            have hkl' := Lib.hid hkl
            clear hkl
            go_wp2_with fail
            refine HMY.out.mono ?_
            rintro e w3 ⟨rfl, hb3⟩
            clear n0 n1 n2 n3 n4 n5 n6
            have HB3 := Lib.hid (HB2.out.trans (hb3.mono HB2.out.size))
            clear hb3 c1r
            go_wp2_with fail
            go_loopg [8] k2 (fun g v8 w4 => ∃ i : Nat, i + g = k2 ∧ v8 = .int .i64 (i : Int) ∧ (∀ (j : Nat) (h : j < l.length), j < i → l[j].uid ≠ nd.uid) ∧ Below W.heap.size W w4)
            case atStart => exact ⟨0, by omega, rfl, fun j h h2 => by omega, HB3.out⟩
            case round =>
              rename World => w4
              obtain ⟨i, hi, rfl, hall2, hb4⟩ := hrel
              have HB4 := Lib.hid hb4
              have HAL2 := Lib.hid hall2
              have c1r := cell_on c1 hb4
              by_cases hik : i < k2
              · have hiki : (i : Int) < (k2 : Int) := by omega
                have hini : (i : Int) < (n : Int) := by omega
                have hil : i < l.length := by rw [HN.out]; omega
                obtain ⟨b', hbb, hat⟩ := HC.out w4 hb4 hn0
                obtain rfl : b = b' := by simpa using hbb
                obtain ⟨-, vi', va', m0, -⟩ := hat k2 hkl'.out
                obtain ⟨-, vi2, va2, n0, -⟩ := hat i hil
                rw [HND.out hkl'.out] at m0
                obtain ⟨uy, huy⟩ : ∃ u, (l[i]'hil).uid = u := ⟨_, rfl⟩
                have HUY : Hid (∀ h : i < l.length, l[i].uid = uy) := Lib.hid (fun _ => huy)
                rw [huy] at n0
                clear hat hbb huy hall2 hb4
                by_cases hxy : uy = nd.uid
                · have HNO : Hid ((mayO par l).2 ≠ 0) := Lib.hid (no_err hkl'.out (HEU.out i hkl'.out hik (by rw [HUY.out hil, HND.out hkl'.out]; exact hxy)))
                  have hd2 : (uy.toList == nd.uid.toList) = true := by simp [hxy]
                  clear hil hxy
                  go_wp2_with fail
                  go_quiet (fail)
                  go_wp2_with fail
                  try rw [Exit.noGoto_ret]
                  go_ret2
                  exact post_no HNO.out (by decide) (by first | exact HB.out.trans ((HB4.out.trans ((below_drewN' _ _).mono HB4.out.size)).mono HB.out.size) | (rw [← hN]; exact HB.out.trans ((HB4.out.trans ((below_drewN' _ _).mono HB4.out.size)).mono HB.out.size)))
                · have hd2 : (uy.toList == nd.uid.toList) = false := str_no hxy
                  have HAL3 : Hid (∀ (j : Nat) (h : j < l.length), j < i + 1 → l[j].uid ≠ nd.uid) := Lib.hid (fun j h h2 => by
                    by_cases hji : j = i
                    · subst hji; rw [HUY.out h]; exact hxy
                    · exact HAL2.out j h (by omega))
                  clear hil hxy
                  go_wp2_with fail
                  go_quiet (fail)
                  go_wp2_with fail
                  go_roundg (gk - 1)
                  case measure => omega
                  case rel => exact ⟨i + 1, by omega, by go_num, HAL3.out, HB4.out.trans ((below_drewN' _ _).mono HB4.out.size)⟩
              · have hiki : ¬ (i : Int) < (k2 : Int) := by omega
                have HZ0 : Hid (∀ j, j < k2 + 1 → errAt l j = 0) := Lib.hid (fun j hj => by
                  by_cases hjk : j = k2
                  · subst hjk
                    exact HEZ.out HR.out (fun i' hi' h' => HAL2.out i' hi' (by omega))
                  · exact HAL.out j (by omega))
                clear hall2 hb4
                go_wp2_with fail
                go_roundg (G - 1)
                case measure => omega
                case rel => exact ⟨k2 + 1, by omega, by go_num, HZ0.out, HB4.out⟩
        · have hki2 : ¬ (k2 : Int) < (n : Int) := by omega
          have HER : Hid (∀ k, k < l.length → errAt l k = 0) := Lib.hid (fun k hk => hall k (by have := HN.out; omega))
          have HIN := Lib.hid (alone_all (err_ok HER.out))
          clear hall hb2 HAL
          go_wp2_with fail
          clear c1r
          go_loopg [9, 10, 11] n (fun g v9 v10 v11 w5 => ∃ (k fl : Nat), k + g = n ∧ v11 = .int .i64 (k : Int) ∧ v9 = .int .i64 (fl : Int) ∧ fl = flatsN (l.take k) ∧ fl ≤ 2 ∧ w5.ownsRow W.heap.size 3 1 v10 k ((waysL l k).map intV) ∧ (∀ x ∈ waysL l k, 0 ≤ x ∧ x ≤ 64) ∧ (∀ (j : Nat) (h : j < l.length), j < k → shapeB l j l[j] = false) ∧ Below W.heap.size W w5)
          case atStart =>
            refine ⟨0, 0, by omega, rfl, rfl, by simp [flatsN], by omega, ?_, ?_, fun j h h2 => by omega, HB2.out⟩
            · exact World.ownsRow_nil _ _ _ _
            · intro x hx; simp [waysL] at hx
          case round =>
            rename Nat => G2
            rename World => w5
            obtain ⟨k3, fl, hk3, rfl, rfl, hfl, hfl2, hrow, hwm, hall, hb5⟩ := hrel
            have HB5 := Lib.hid hb5
            have HALL := Lib.hid hall
            have HROW := Lib.hid hrow
            have HWM := Lib.hid hwm
            have HF5 := Lib.hid (HB.out.trans (HB5.out.mono HB.out.size))
            have c1r := cell_on c1 hb5
            have c0r := cell_on c0 hb5
            by_cases hkn3 : k3 < n
            · have hkl : k3 < l.length := by rw [HN.out]; exact hkn3
              have hki3 : (k3 : Int) < (n : Int) := by omega
              obtain ⟨b, rfl, hat⟩ := HC.out w5 hb5 hn0
              obtain ⟨-, vi, va, -, n1, n2, -, -, -, -, hvi, -⟩ := hat k3 hkl
              have HINK := Lib.hid (HIN.out.1 k3 hkl)
              have hil := HIN.out.2 _ (List.getElem_mem hkl)
              have HSH := Lib.hid (@shape_P l k3 (l[k3]))
              have HNS := Lib.hid (fun h => @no_shape par l k3 hkl h)
              have HWS := Lib.hid (waysL_succ hkl)
              have HFT := Lib.hid (flats_take hkl)
              have HAK : Hid (shapeB l k3 l[k3] = false → ∀ (j : Nat) (h : j < l.length), j < k3 + 1 → shapeB l j l[j] = false) := Lib.hid (fun h0 j h h2 => by
                by_cases hjk : j = k3
                · subst hjk; exact h0
                · exact HALL.out j h (by omega))
              obtain ⟨nd, hnd⟩ : ∃ x, l[k3] = x := ⟨_, rfl⟩
              rw [hnd] at n1 hvi HINK hil HSH HNS HWS HFT HAK
              rw [HN.out] at HSH
              obtain ⟨ai, ci, rfl, hcs⟩ := hvi
              have HCS := Lib.hid hcs
              obtain ⟨aw, cw, rfl, hwr⟩ := own_irow (l := waysL l k3) hrow
              have HWR := Lib.hid hwr
              obtain ⟨mi, hmi⟩ : ∃ m, nd.ins.length = m := ⟨_, rfl⟩
              have HMI := Lib.hid hmi
              have HWL := Lib.hid (waysL_len l k3)
              obtain ⟨mr, hmr⟩ : ∃ m, (readersI l (k3 : Int)).length = m := ⟨_, rfl⟩
              have HMR := Lib.hid hmr
              have HRD : Hid (∀ w', Below W.heap.size W w' → Calls Tryd.prog 52 #[.agg #[.int .i64 par, .slice (some ⟨b, 0, none⟩) n c], .int .i64 (k3 : Int)] w' (PlPost (readersI l (k3 : Int)) w')) := Lib.hid (fun w' hb' => readers_any par (k3 : Int) (HV1.out.on hb') (by rw [HN.out]; omega) (fun nd hn => (HSS.out nd hn).2.1))
              have HMZ : Hid (k3 + 1 = n → mr = 0) := Lib.hid (fun h => by rw [← hmr]; exact last_none HIN.out.1 (by rw [HN.out]; exact h))
              rw [hmi] at n2 hil
              rw [HWL.out] at HROW
              rw [HWL.out]
              rw [hmr] at HSH
              rw [← hfl] at HSH HFT
              have hmi1 : (mi : Int) ≤ 1000 := by omega
              have hk12 : (k3 : Int) ≤ 12 := by omega
              have hflb : (fl : Int) ≤ 2 := by omega
              obtain ⟨K, hK⟩ : ∃ K, nd.kind = K := ⟨_, rfl⟩
              have HK := Lib.hid hK
              rw [hK] at n1 HSH HFT
              obtain ⟨y, hy⟩ : ∃ y, wayOf nd (waysL l k3) = y := ⟨_, rfl⟩
              have HY : Hid (y = if K = 1 then 1 else if K = 4 then sumAt (waysL l k3) nd.ins * 4 else sumAt (waysL l k3) nd.ins) := Lib.hid (by rw [← hy, ← hK]; rfl)
              rw [hy] at HSH HWS
              have HN1 := Lib.hid n1; have HN2 := Lib.hid n2
              clear hkl hat hnd hcs hwr hmi hmr hfl hfl2 hrow hwm hall hb5 hK hy
              go_wp2_with fail
              clear n1 n2 c1r c0r
              go_loopg [13, 14] mi (fun g v13 v14 w6 => ∃ (m : Nat) (q : Int), m + g = mi ∧ v14 = .int .i64 (m : Int) ∧ v13 = .int .i64 q ∧ (nd.ins.drop m).foldl (fun s i => s + (waysL l k3).getD i.toNat 0) q = sumAt (waysL l k3) nd.ins ∧ 0 ≤ q ∧ q ≤ 64 * m ∧ w5 = w6)
              case atStart => exact ⟨0, 0, by omega, rfl, rfl, rfl, by omega, by omega, rfl⟩
              case round =>
                obtain ⟨m, q, hm, rfl, rfl, hf, hq1, hq2, rfl⟩ := hrel
                have HF := Lib.hid hf; clear hf
                have c1r := cell_on c1 HB5.out
                have c0r := cell_on c0 HB5.out
                have n1 := HN1.out; have n2 := HN2.out
                by_cases hmm : m < mi
                · have hml : m < nd.ins.length := by rw [HMI.out]; exact hmm
                  have hmii : (m : Int) < (mi : Int) := by omega
                  obtain ⟨b1, o1, rfl, hlt, hcc⟩ := HCS.out (by omega)
                  have hx := hcc m hml
                  obtain ⟨hi0', hi1'⟩ := HINK.out _ (List.getElem_mem hml)
                  have HS := Lib.hid (sum_drop (waysL l k3) hml q)
                  obtain ⟨i, hi⟩ : ∃ i : Nat, nd.ins[m] = (i : Int) := ⟨nd.ins[m].toNat, by omega⟩
                  rw [hi] at hx hi0' hi1' HS
                  have hik : i < (waysL l k3).length := by rw [HWL.out]; omega
                  obtain ⟨g1, o2, rfl, hlt2, hcw⟩ := HWR.out (by omega)
                  have hxw := hcw i hik
                  have hgb := getD_bound HWM.out i
                  have hge : (waysL l k3)[i] = (waysL l k3).getD i 0 := by rw [List.getD_eq_getElem?_getD, List.getElem?_eq_getElem hik]; rfl
                  rw [hge] at hxw
                  rw [Int.toNat_natCast] at HS
                  obtain ⟨z, hz⟩ : ∃ z, (waysL l k3).getD i 0 = z := ⟨_, rfl⟩
                  rw [hz] at hxw hgb HS
                  obtain ⟨hgb1, hgb2⟩ := hgb
                  clear hml hi hz hge hik hcc hcw hlt hlt2
                  go_wp2_with fail
                  go_roundg (gk - 1)
                  case measure => omega
                  case rel => exact ⟨m + 1, q + z, by omega, by go_num, by go_num, by rw [← HS.out]; exact HF.out, by omega, by push_cast; omega, rfl⟩
                · have hmii : ¬ (m : Int) < (mi : Int) := by omega
                  have HE : Hid (q = sumAt (waysL l k3) nd.ins) := Lib.hid (by rw [← HF.out, List.drop_eq_nil_of_le (by rw [HMI.out]; omega)]; rfl)
                  have hq64 : q ≤ 64000 := by omega
                  have HSZ : Hid (∀ o, W.heap.size ≤ (w5.alloc o).heap.size) := Lib.hid (fun o => by rw [World.size_alloc]; have := HB5.out.size; omega)
                  have HPM : Hid (∀ (w7 : World) (v' : Value) (z : Int) (o : Obj), w7.ownsRow W.heap.size 3 1 v' (k3 + 1) ((waysL l k3).map intV ++ [.int .i64 z]) → (w5.alloc o).grownBy w7 (Value.slice aw k3 cw).ownBlock → y = z → w7.ownsRow W.heap.size 3 1 v' (k3 + 1) ((waysL l (k3 + 1)).map intV) ∧ Below W.heap.size W w7) := Lib.hid (fun w7 v' z o h4 g4 hyz => by
                    refine ⟨by rw [HWS.out, hyz]; simpa [intV] using h4, ?_⟩
                    exact (HB5.out.alloc HB5.out.size _).grown g4 (by rw [World.size_alloc]; have := HB5.out.size; omega) (fun j hj => ((HROW.out).lt j hj).1))
                  have HWM2 : Hid (y ≤ 64 → ∀ x ∈ waysL l (k3 + 1), 0 ≤ x ∧ x ≤ 64) := Lib.hid (fun hy64 x hx => by
                    rw [HWS.out] at hx
                    rcases List.mem_append.1 hx with h | h
                    · exact HWM.out x h
                    · rw [List.mem_singleton.1 h]
                      refine ⟨?_, hy64⟩
                      rw [HY.out, ← HE.out]
                      split
                      · omega
                      split <;> omega)
                  clear hmm hm hq2
                  have hkc : K = 1 ∨ K = 4 ∨ K = 9 ∨ ¬ (K = 1 ∨ K = 4 ∨ K = 9) := by omega
                  rcases hkc with rfl | rfl | rfl | hkc
                  · push_cast at n1
                    have HYE : Hid (y = 1) := Lib.hid (by rw [HY.out]; simp)
                    go_wp2_with (at_builtin; refine wpList_append_own _ rfl (.tmp 132) (.tmp 134) 47 rfl W.heap.size 3 i0 (.int .i64 0) 1 8 Tryd.underlying47 hi0 hz0 hz1 hz2 rfl (by decide) _ _ _ rfl (HROW.out.alloc _) ⟨_, 0, none⟩ 1 1 [.int .i64 (1)] rfl rfl (cell_one_new _ _ _) (by simp [Value.oneCell']) (by unfold maxLen; omega) (by omega) (HSZ.out _) ?_)
                    intro v' w7 k4 g4 _
                    have HM8 := Lib.hid (HPM.out _ _ _ _ k4 g4 HYE.out)
                    have c1s := cell_on c1 HM8.out.2
                    have c0s := cell_on c0 HM8.out.2
                    have HR8 := Lib.hid (HRD.out w7 HM8.out.2)
                    clear k4 g4 c1r c0r n1 n2
                    go_wp2_with fail
                    refine HR8.out.mono ?_
                    rintro e w8 ⟨u8v, rfl, hu8, hb8⟩
                    rw [HMR.out] at hu8
                    obtain ⟨a8, cap8, rfl, _, _⟩ := own_slice hu8
                    have HM9 := Lib.hid (And.intro (own_below' HM8.out.1 hb8) (HM8.out.2.trans (hb8.mono HM8.out.2.size)))
                    have HF8 := Lib.hid (HB.out.trans (HM9.out.2.mono HB.out.size))
                    clear hu8 hb8 c1s c0s HM8
                    have HM8 := HM9
                    have hye := HYE.out
                    have hmz := HMZ.out
                    have hq0 := hq1
                    by_cases hk0 : k3 = 0
                    · have hz0b : ((k3 : Int) == 0) = true := by simp; omega
                      by_cases hla : k3 + 1 = n
                      · have hlab : ((k3 : Int) == (n : Int) - 1) = true := by simp; omega
                        exact absurd hla (by omega)
                      · have hlab : ((k3 : Int) == (n : Int) - 1) = false := by simp; omega
                        have hd5 : decide ((fl : Int) > 2) = false := by simp; omega
                        by_cases hm1 : mr < 1
                        · have hd1 : decide ((mr : Int) < 1) = true := by simp; omega
                          have HNO : Hid ((mayO par l).2 ≠ 0) := Lib.hid (HNS.out (HSH.out.2 (by unfold ShapeP; omega)))
                          clear HSH
                          go_wp2_with fail
                          try rw [Exit.noGoto_ret]
                          go_ret2
                          exact post_no HNO.out (by decide) (by first | exact HF8.out | (rw [← hN]; exact HF8.out))
                        · have hd1 : decide ((mr : Int) < 1) = false := by simp; omega
                          by_cases hm3 : mr > 3
                          · have hd3 : decide ((mr : Int) > 3) = true := by simp; omega
                            have HNO : Hid ((mayO par l).2 ≠ 0) := Lib.hid (HNS.out (HSH.out.2 (by unfold ShapeP; omega)))
                            clear HSH
                            go_wp2_with fail
                            try rw [Exit.noGoto_ret]
                            go_ret2
                            exact post_no HNO.out (by decide) (by first | exact HF8.out | (rw [← hN]; exact HF8.out))
                          · have hd3 : decide ((mr : Int) > 3) = false := by simp; omega
                            have HOK : Hid (shapeB l k3 nd = false) := Lib.hid (by
                              cases hsb : shapeB l k3 nd with
                              | false => rfl
                              | true => exfalso; have := HSH.out.1 hsb; unfold ShapeP at this; omega)
                            have hy64 : y ≤ 64 := by omega
                            have hfe : flatsN (l.take (k3 + 1)) = fl := by rw [HFT.out]; simp
                            have HRL : Hid (fl = flatsN (l.take (k3 + 1)) ∧ fl ≤ 2) := Lib.hid ⟨hfe.symm, by omega⟩
                            have HW2 := Lib.hid (HWM2.out hy64)
                            clear HSH hfe
                            go_wp2_with fail
                            go_roundg (G2 - 1)
                            case measure => omega
                            case rel => exact ⟨k3 + 1, fl, by omega, by go_num, by go_num, HRL.out.1, HRL.out.2, HM8.out.1, HW2.out, HAK.out HOK.out, HM8.out.2⟩
                    · have hz0b : ((k3 : Int) == 0) = false := by simp; omega
                      have HNO : Hid ((mayO par l).2 ≠ 0) := Lib.hid (HNS.out (HSH.out.2 (by unfold ShapeP; omega)))
                      clear HSH
                      go_wp2_with fail
                      try rw [Exit.noGoto_ret]
                      go_ret2
                      exact post_no HNO.out (by decide) (by first | exact HF8.out | (rw [← hN]; exact HF8.out))
                  · push_cast at n1
                    have HYE : Hid (y = 4 * q) := Lib.hid (by rw [HY.out, HE.out]; simp; omega)
                    go_wp2_with (at_builtin; refine wpList_append_own _ rfl (.tmp 132) (.tmp 134) 47 rfl W.heap.size 3 i0 (.int .i64 0) 1 8 Tryd.underlying47 hi0 hz0 hz1 hz2 rfl (by decide) _ _ _ rfl (HROW.out.alloc _) ⟨_, 0, none⟩ 1 1 [.int .i64 (4 * q)] rfl rfl (cell_one_new _ _ _) (by simp [Value.oneCell']) (by unfold maxLen; omega) (by omega) (HSZ.out _) ?_)
                    intro v' w7 k4 g4 _
                    have HM8 := Lib.hid (HPM.out _ _ _ _ k4 g4 HYE.out)
                    have c1s := cell_on c1 HM8.out.2
                    have c0s := cell_on c0 HM8.out.2
                    have HR8 := Lib.hid (HRD.out w7 HM8.out.2)
                    clear k4 g4 c1r c0r n1 n2
                    go_wp2_with fail
                    refine HR8.out.mono ?_
                    rintro e w8 ⟨u8v, rfl, hu8, hb8⟩
                    rw [HMR.out] at hu8
                    obtain ⟨a8, cap8, rfl, _, _⟩ := own_slice hu8
                    have HM9 := Lib.hid (And.intro (own_below' HM8.out.1 hb8) (HM8.out.2.trans (hb8.mono HM8.out.2.size)))
                    have HF8 := Lib.hid (HB.out.trans (HM9.out.2.mono HB.out.size))
                    clear hu8 hb8 c1s c0s HM8
                    have HM8 := HM9
                    have hye := HYE.out
                    have hmz := HMZ.out
                    have hq0 := hq1
                    by_cases hk0 : k3 = 0
                    · have hz0b : ((k3 : Int) == 0) = true := by simp; omega
                      have HNO : Hid ((mayO par l).2 ≠ 0) := Lib.hid (HNS.out (HSH.out.2 (by unfold ShapeP; omega)))
                      clear HSH
                      go_wp2_with fail
                      try rw [Exit.noGoto_ret]
                      go_ret2
                      exact post_no HNO.out (by decide) (by first | exact HF8.out | (rw [← hN]; exact HF8.out))
                    · have hz0b : ((k3 : Int) == 0) = false := by simp; omega
                      by_cases hla : k3 + 1 = n
                      · have hlab : ((k3 : Int) == (n : Int) - 1) = true := by simp; omega
                        have HNO : Hid ((mayO par l).2 ≠ 0) := Lib.hid (HNS.out (HSH.out.2 (by unfold ShapeP; omega)))
                        clear HSH
                        go_wp2_with fail
                        try rw [Exit.noGoto_ret]
                        go_ret2
                        exact post_no HNO.out (by decide) (by first | exact HF8.out | (rw [← hN]; exact HF8.out))
                      · have hlab : ((k3 : Int) == (n : Int) - 1) = false := by simp; omega
                        by_cases hm1 : mr < 1
                        · have hd1 : decide ((mr : Int) < 1) = true := by simp; omega
                          have HNO : Hid ((mayO par l).2 ≠ 0) := Lib.hid (HNS.out (HSH.out.2 (by unfold ShapeP; omega)))
                          clear HSH
                          go_wp2_with fail
                          try rw [Exit.noGoto_ret]
                          go_ret2
                          exact post_no HNO.out (by decide) (by first | exact HF8.out | (rw [← hN]; exact HF8.out))
                        · have hd1 : decide ((mr : Int) < 1) = false := by simp; omega
                          by_cases hm3 : mr > 3
                          · have hd3 : decide ((mr : Int) > 3) = true := by simp; omega
                            have HNO : Hid ((mayO par l).2 ≠ 0) := Lib.hid (HNS.out (HSH.out.2 (by unfold ShapeP; omega)))
                            clear HSH
                            go_wp2_with fail
                            try rw [Exit.noGoto_ret]
                            go_ret2
                            exact post_no HNO.out (by decide) (by first | exact HF8.out | (rw [← hN]; exact HF8.out))
                          · have hd3 : decide ((mr : Int) > 3) = false := by simp; omega
                            by_cases hf2 : fl + 1 > 2
                            · have hd5 : decide ((fl : Int) + 1 > 2) = true := by simp; omega
                              have HNO : Hid ((mayO par l).2 ≠ 0) := Lib.hid (HNS.out (HSH.out.2 (by unfold ShapeP; omega)))
                              clear HSH
                              go_wp2_with fail
                              try rw [Exit.noGoto_ret]
                              go_ret2
                              exact post_no HNO.out (by decide) (by first | exact HF8.out | (rw [← hN]; exact HF8.out))
                            · have hd5 : decide ((fl : Int) + 1 > 2) = false := by simp; omega
                              by_cases hw64 : 4 * q > 64
                              · have hd4 : decide (4 * q > 64) = true := by simp; omega
                                have HNO : Hid ((mayO par l).2 ≠ 0) := Lib.hid (HNS.out (HSH.out.2 (by unfold ShapeP; omega)))
                                clear HSH
                                go_wp2_with fail
                                try rw [Exit.noGoto_ret]
                                go_ret2
                                exact post_no HNO.out (by decide) (by first | exact HF8.out | (rw [← hN]; exact HF8.out))
                              · have hd4 : decide (4 * q > 64) = false := by simp; omega
                                have HOK : Hid (shapeB l k3 nd = false) := Lib.hid (by
                                  cases hsb : shapeB l k3 nd with
                                  | false => rfl
                                  | true => exfalso; have := HSH.out.1 hsb; unfold ShapeP at this; omega)
                                have hy64 : y ≤ 64 := by omega
                                have hfe : flatsN (l.take (k3 + 1)) = (fl + 1) := by rw [HFT.out]; simp
                                have HRL : Hid ((fl + 1) = flatsN (l.take (k3 + 1)) ∧ (fl + 1) ≤ 2) := Lib.hid ⟨hfe.symm, by omega⟩
                                have HW2 := Lib.hid (HWM2.out hy64)
                                clear HSH hfe
                                go_wp2_with fail
                                go_roundg (G2 - 1)
                                case measure => omega
                                case rel => exact ⟨k3 + 1, (fl + 1), by omega, by go_num, by go_num, HRL.out.1, HRL.out.2, HM8.out.1, HW2.out, HAK.out HOK.out, HM8.out.2⟩
                  · push_cast at n1
                    have HYE : Hid (y = q) := Lib.hid (by rw [HY.out, HE.out]; simp)
                    go_wp2_with (at_builtin; refine wpList_append_own _ rfl (.tmp 132) (.tmp 134) 47 rfl W.heap.size 3 i0 (.int .i64 0) 1 8 Tryd.underlying47 hi0 hz0 hz1 hz2 rfl (by decide) _ _ _ rfl (HROW.out.alloc _) ⟨_, 0, none⟩ 1 1 [.int .i64 (q)] rfl rfl (cell_one_new _ _ _) (by simp [Value.oneCell']) (by unfold maxLen; omega) (by omega) (HSZ.out _) ?_)
                    intro v' w7 k4 g4 _
                    have HM8 := Lib.hid (HPM.out _ _ _ _ k4 g4 HYE.out)
                    have c1s := cell_on c1 HM8.out.2
                    have c0s := cell_on c0 HM8.out.2
                    have HR8 := Lib.hid (HRD.out w7 HM8.out.2)
                    clear k4 g4 c1r c0r n1 n2
                    go_wp2_with fail
                    refine HR8.out.mono ?_
                    rintro e w8 ⟨u8v, rfl, hu8, hb8⟩
                    rw [HMR.out] at hu8
                    obtain ⟨a8, cap8, rfl, _, _⟩ := own_slice hu8
                    have HM9 := Lib.hid (And.intro (own_below' HM8.out.1 hb8) (HM8.out.2.trans (hb8.mono HM8.out.2.size)))
                    have HF8 := Lib.hid (HB.out.trans (HM9.out.2.mono HB.out.size))
                    clear hu8 hb8 c1s c0s HM8
                    have HM8 := HM9
                    have hye := HYE.out
                    have hmz := HMZ.out
                    have hq0 := hq1
                    by_cases hk0 : k3 = 0
                    · have hz0b : ((k3 : Int) == 0) = true := by simp; omega
                      have HNO : Hid ((mayO par l).2 ≠ 0) := Lib.hid (HNS.out (HSH.out.2 (by unfold ShapeP; omega)))
                      clear HSH
                      go_wp2_with fail
                      try rw [Exit.noGoto_ret]
                      go_ret2
                      exact post_no HNO.out (by decide) (by first | exact HF8.out | (rw [← hN]; exact HF8.out))
                    · have hz0b : ((k3 : Int) == 0) = false := by simp; omega
                      by_cases hla : k3 + 1 = n
                      · have hlab : ((k3 : Int) == (n : Int) - 1) = true := by simp; omega
                        have hm0 : decide ((mr : Int) > 0) = false := by simp; omega
                        have hd5 : decide ((fl : Int) > 2) = false := by simp; omega
                        by_cases hw64 : q > 64
                        · have hd4 : decide (q > 64) = true := by simp; omega
                          have HNO : Hid ((mayO par l).2 ≠ 0) := Lib.hid (HNS.out (HSH.out.2 (by unfold ShapeP; omega)))
                          clear HSH
                          go_wp2_with fail
                          try rw [Exit.noGoto_ret]
                          go_ret2
                          exact post_no HNO.out (by decide) (by first | exact HF8.out | (rw [← hN]; exact HF8.out))
                        · have hd4 : decide (q > 64) = false := by simp; omega
                          have HOK : Hid (shapeB l k3 nd = false) := Lib.hid (by
                            cases hsb : shapeB l k3 nd with
                            | false => rfl
                            | true => exfalso; have := HSH.out.1 hsb; unfold ShapeP at this; omega)
                          have hy64 : y ≤ 64 := by omega
                          have hfe : flatsN (l.take (k3 + 1)) = fl := by rw [HFT.out]; simp
                          have HRL : Hid (fl = flatsN (l.take (k3 + 1)) ∧ fl ≤ 2) := Lib.hid ⟨hfe.symm, by omega⟩
                          have HW2 := Lib.hid (HWM2.out hy64)
                          clear HSH hfe
                          go_wp2_with fail
                          go_roundg (G2 - 1)
                          case measure => omega
                          case rel => exact ⟨k3 + 1, fl, by omega, by go_num, by go_num, HRL.out.1, HRL.out.2, HM8.out.1, HW2.out, HAK.out HOK.out, HM8.out.2⟩
                      · have hlab : ((k3 : Int) == (n : Int) - 1) = false := by simp; omega
                        have HNO : Hid ((mayO par l).2 ≠ 0) := Lib.hid (HNS.out (HSH.out.2 (by unfold ShapeP; omega)))
                        clear HSH
                        go_wp2_with fail
                        try rw [Exit.noGoto_ret]
                        go_ret2
                        exact post_no HNO.out (by decide) (by first | exact HF8.out | (rw [← hN]; exact HF8.out))
                  · have hk1 : ((K : Int) == 1) = false := by simp; omega
                    have hk1n : ((K : Int) != 1) = true := by simp; omega
                    have hk4 : ((K : Int) == 4) = false := by simp; omega
                    have hk9 : ((K : Int) == 9) = false := by simp; omega
                    have hk9n : ((K : Int) != 9) = true := by simp; omega
                    have HYE : Hid (y = q) := Lib.hid (by rw [HY.out, HE.out]; rw [if_neg (by omega), if_neg (by omega)])
                    go_wp2_with (at_builtin; refine wpList_append_own _ rfl (.tmp 132) (.tmp 134) 47 rfl W.heap.size 3 i0 (.int .i64 0) 1 8 Tryd.underlying47 hi0 hz0 hz1 hz2 rfl (by decide) _ _ _ rfl (HROW.out.alloc _) ⟨_, 0, none⟩ 1 1 [.int .i64 (q)] rfl rfl (cell_one_new _ _ _) (by simp [Value.oneCell']) (by unfold maxLen; omega) (by omega) (HSZ.out _) ?_)
                    intro v' w7 k4 g4 _
                    have HM8 := Lib.hid (HPM.out _ _ _ _ k4 g4 HYE.out)
                    have c1s := cell_on c1 HM8.out.2
                    have c0s := cell_on c0 HM8.out.2
                    have HR8 := Lib.hid (HRD.out w7 HM8.out.2)
                    clear k4 g4 c1r c0r n1 n2
                    go_wp2_with fail
                    refine HR8.out.mono ?_
                    rintro e w8 ⟨u8v, rfl, hu8, hb8⟩
                    rw [HMR.out] at hu8
                    obtain ⟨a8, cap8, rfl, _, _⟩ := own_slice hu8
                    have HM9 := Lib.hid (And.intro (own_below' HM8.out.1 hb8) (HM8.out.2.trans (hb8.mono HM8.out.2.size)))
                    have HF8 := Lib.hid (HB.out.trans (HM9.out.2.mono HB.out.size))
                    clear hu8 hb8 c1s c0s HM8
                    have HM8 := HM9
                    have hye := HYE.out
                    have hmz := HMZ.out
                    have hq0 := hq1
                    by_cases hk0 : k3 = 0
                    · have hz0b : ((k3 : Int) == 0) = true := by simp; omega
                      have HNO : Hid ((mayO par l).2 ≠ 0) := Lib.hid (HNS.out (HSH.out.2 (by unfold ShapeP; omega)))
                      clear HSH
                      go_wp2_with fail
                      try rw [Exit.noGoto_ret]
                      go_ret2
                      exact post_no HNO.out (by decide) (by first | exact HF8.out | (rw [← hN]; exact HF8.out))
                    · have hz0b : ((k3 : Int) == 0) = false := by simp; omega
                      by_cases hla : k3 + 1 = n
                      · have hlab : ((k3 : Int) == (n : Int) - 1) = true := by simp; omega
                        have HNO : Hid ((mayO par l).2 ≠ 0) := Lib.hid (HNS.out (HSH.out.2 (by unfold ShapeP; omega)))
                        clear HSH
                        go_wp2_with fail
                        try rw [Exit.noGoto_ret]
                        go_ret2
                        exact post_no HNO.out (by decide) (by first | exact HF8.out | (rw [← hN]; exact HF8.out))
                      · have hlab : ((k3 : Int) == (n : Int) - 1) = false := by simp; omega
                        have hd5 : decide ((fl : Int) > 2) = false := by simp; omega
                        by_cases hm1 : mr < 1
                        · have hd1 : decide ((mr : Int) < 1) = true := by simp; omega
                          have HNO : Hid ((mayO par l).2 ≠ 0) := Lib.hid (HNS.out (HSH.out.2 (by unfold ShapeP; omega)))
                          clear HSH
                          go_wp2_with fail
                          try rw [Exit.noGoto_ret]
                          go_ret2
                          exact post_no HNO.out (by decide) (by first | exact HF8.out | (rw [← hN]; exact HF8.out))
                        · have hd1 : decide ((mr : Int) < 1) = false := by simp; omega
                          by_cases hm3 : mr > 3
                          · have hd3 : decide ((mr : Int) > 3) = true := by simp; omega
                            have HNO : Hid ((mayO par l).2 ≠ 0) := Lib.hid (HNS.out (HSH.out.2 (by unfold ShapeP; omega)))
                            clear HSH
                            go_wp2_with fail
                            try rw [Exit.noGoto_ret]
                            go_ret2
                            exact post_no HNO.out (by decide) (by first | exact HF8.out | (rw [← hN]; exact HF8.out))
                          · have hd3 : decide ((mr : Int) > 3) = false := by simp; omega
                            by_cases hw64 : q > 64
                            · have hd4 : decide (q > 64) = true := by simp; omega
                              have HNO : Hid ((mayO par l).2 ≠ 0) := Lib.hid (HNS.out (HSH.out.2 (by unfold ShapeP; omega)))
                              clear HSH
                              go_wp2_with fail
                              try rw [Exit.noGoto_ret]
                              go_ret2
                              exact post_no HNO.out (by decide) (by first | exact HF8.out | (rw [← hN]; exact HF8.out))
                            · have hd4 : decide (q > 64) = false := by simp; omega
                              have HOK : Hid (shapeB l k3 nd = false) := Lib.hid (by
                                cases hsb : shapeB l k3 nd with
                                | false => rfl
                                | true => exfalso; have := HSH.out.1 hsb; unfold ShapeP at this; omega)
                              have hy64 : y ≤ 64 := by omega
                              have hfe : flatsN (l.take (k3 + 1)) = fl := by rw [HFT.out]; simp; omega
                              have HRL : Hid (fl = flatsN (l.take (k3 + 1)) ∧ fl ≤ 2) := Lib.hid ⟨hfe.symm, by omega⟩
                              have HW2 := Lib.hid (HWM2.out hy64)
                              clear HSH hfe
                              go_wp2_with fail
                              go_roundg (G2 - 1)
                              case measure => omega
                              case rel => exact ⟨k3 + 1, fl, by omega, by go_num, by go_num, HRL.out.1, HRL.out.2, HM8.out.1, HW2.out, HAK.out HOK.out, HM8.out.2⟩
            · have hki3 : ¬ (k3 : Int) < (n : Int) := by omega
              have HYS : Hid ((mayO par l).2 = 0) := Lib.hid (yes_may HBD.out HER.out (fun k hk => hall k hk (by have := HN.out; omega)))
              clear hall hb5 hrow hwm
              go_wp2_with fail
              try rw [Exit.noGoto_ret]
              go_ret2
              exact post_yes HYS.out (by first | exact HF5.out | (rw [← hN]; exact HF5.out))
end Go.Proofs.YtnelfokfgnikfaaDoor.rf

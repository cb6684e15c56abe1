/- What Text answers of a job. -/
import Derived.Test.YtimjpgmgpgpanaaGreatDoorScL
namespace Go.Proofs.YtimjpgmgpgpanaaGreatDoor.sc
set_option linter.unusedSimpArgs false
set_option linter.unusedVariables false
open Go.RowKit nam exp jb

def joinW (ws : List ByteArray) : ByteArray := ba (Lib.join (ws.map (·.data.toList)) [32])
def textGo (l : List Nd) : ByteArray → List Nd → ByteArray × Int
  | acc, [] => (acc, 0)
  | acc, nd :: t => if wordsOfE nd ≠ 0 then (⟨#[]⟩, wordsOfE nd) else textGo l (acc ++ (joinW (wordsOfO l nd) ++ ⟨#[10]⟩)) t
def textHead (par : Int) : ByteArray := (⟨#[112, 97, 114, 32]⟩ ++ ba (Lib.decDigits par.toNat)) ++ ⟨#[10]⟩
def textO (par : Int) (l : List Nd) : ByteArray × Int := if (mayO par l).2 ≠ 0 then (⟨#[]⟩, 2) else textGo l (textHead par) l
structure Fine (l : List Nd) : Prop where
  told : ∀ nd ∈ l, Told l nd
  uid : ∀ nd ∈ l, nd.uid.size ≤ 1000
  len : l.length ≤ 1000
theorem ba_size (l : List UInt8) : (ba l).size = l.length := by show l.toArray.size = _; simp
theorem dec_len {u : Nat} (h : u < 100) : (Lib.decDigits u).length ≤ 2 := by
  rw [Lib.decDigits]
  split
  · simp
  · rw [Lib.decDigits, dif_pos (by omega)]; simp
theorem join_len (sep : List UInt8) (M : Nat) : ∀ (xs : List (List UInt8)), (∀ x ∈ xs, x.length ≤ M) → (Lib.join xs sep).length ≤ xs.length * (M + sep.length)
  | [], _ => by simp [Lib.join_nil]
  | x :: r, h => by
    rw [Lib.join_cons, List.length_append]
    have h1 := h x (by simp)
    have h2 : ∀ (r : List (List UInt8)), (∀ y ∈ r, y.length ≤ M) → (Lib.joinTail sep r).length ≤ r.length * (M + sep.length) := by
      intro r
      induction r with
      | nil => intro _; simp [Lib.joinTail]
      | cons y r ih =>
        intro hy
        have e : Lib.joinTail sep (y :: r) = (sep ++ y) ++ Lib.joinTail sep r := by simp [Lib.joinTail]
        rw [e, List.length_append, List.length_append, List.length_cons, Nat.add_mul, Nat.one_mul]
        have := hy y (by simp)
        have := ih fun z hz => hy z (List.mem_cons_of_mem _ hz)
        omega
    have h3 := h2 r fun y hy => h y (List.mem_cons_of_mem _ hy)
    rw [List.length_cons, Nat.add_mul, Nat.one_mul]
    omega
theorem lineS_size (x : Ex) : (lineS x).size ≤ 1600 := by
  unfold lineS
  split
  · rename_i h
    have := lex.textOf_bound x.line 400 (by omega)
    omega
  · simp [ByteArray.size]
theorem words_size {l : List Nd} (hf : Fine l) {nd : Nd} (hn : nd ∈ l) : (wordsOfO l nd).length ≤ 1010 ∧ ∀ x ∈ wordsOfO l nd, x.size ≤ 2000 := by
  have hT := hf.told nd hn
  refine ⟨?_, fun x hx => ?_⟩
  · unfold wordsOfO wordsN wordsX
    have := hT.few
    simp only [List.length_append, List.length_map, List.length_cons, List.length_nil]
    split <;> split <;> simp <;> omega
  · unfold wordsOfO at hx
    rw [List.mem_append, List.mem_append, List.mem_append] at hx
    rcases hx with ((hx | hx) | hx) | hx
    · simp only [List.mem_cons, List.not_mem_nil, or_false] at hx
      rcases hx with rfl | rfl
      · have := hf.uid nd hn; omega
      · have h10 := hT.kind
        generalize nd.kind = k at h10
        match k, h10 with
        | 0, _ | 1, _ | 2, _ | 3, _ | 4, _ | 5, _ | 6, _ | 7, _ | 8, _ | 9, _ => decide
        | k + 10, h => omega
    · obtain ⟨i, hi, rfl⟩ := List.mem_map.1 hx
      obtain ⟨h0, h1⟩ := hT.ins i hi
      unfold uidAt
      rw [List.getD_eq_getElem?_getD, List.getElem?_eq_getElem (by omega)]
      have := hf.uid _ (List.getElem_mem (show i.toNat < l.length by omega))
      simp only [Option.getD_some]
      omega
    · unfold wordsN at hx
      split at hx
      · simp only [List.mem_singleton] at hx
        rw [hx, ba_size]
        have := dec_len (u := nd.n.toNat) (by have := hT.n; omega)
        omega
      · cases hx
    · unfold wordsX at hx
      split at hx
      · simp only [List.mem_cons, List.not_mem_nil, or_false] at hx
        rcases hx with rfl | rfl
        · decide
        · have := lineS_size nd.x; omega
      · cases hx
theorem joinW_size {l : List Nd} (hf : Fine l) {nd : Nd} (hn : nd ∈ l) : (joinW (wordsOfO l nd)).size ≤ 3000000 ∧ (Lib.join ((wordsOfO l nd).map (·.data.toList)) [32]).length ≤ 3000000 := by
  obtain ⟨h1, h2⟩ := words_size hf hn
  have h3 := join_len [32] 2000 ((wordsOfO l nd).map (·.data.toList)) (fun x hx => by
    obtain ⟨y, hy, rfl⟩ := List.mem_map.1 hx
    have := h2 y hy
    rw [Array.length_toList]; exact this)
  rw [List.length_map] at h3
  simp only [List.length_singleton] at h3
  have h4 : (wordsOfO l nd).length * (2000 + 1) ≤ 1010 * 2001 := Nat.mul_le_mul_right _ h1
  unfold joinW
  rw [ba_size]
  omega
set_option maxHeartbeats 3200000 in
set_option maxRecDepth 1000000 in
theorem text_any {w : World} {vl : Value} {l : List Nd} (par : Int) (hk : KTab w) (ht : jb.Tab w) (htab : exp.Tab w.heap.size w) (hl : Nodes w vl l) (hf : Fine l) :
    Calls Tryz.prog 10 #[.agg #[.int .i64 par, vl]] w fun e w' => e = .returned (.tuple #[.string (textO par l).1, .int .i64 (textO par l).2]) ∧ Below w.heap.size w w' := by
  obtain ⟨al, cl, rfl, -, hlc⟩ := id hl
  obtain ⟨N, hN⟩ : ∃ N, w.heap.size = N := ⟨_, rfl⟩
  obtain ⟨W, hW⟩ : ∃ W, w.alloc (.cells #[.int .i64 par, .slice al l.length cl] 24) = W := ⟨_, rfl⟩
  have hwb : Below w.heap.size w W := by rw [← hW]; exact below_made _ _
  obtain ⟨c0, c1⟩ := box2 hW
  rw [hN] at c0 c1
  have HM := Lib.hid (may_job par (ht.on hwb) (hl.on hwb))
  obtain ⟨n, hn⟩ : ∃ n, l.length = n := ⟨_, rfl⟩
  have hn1000 : n ≤ 1000 := by rw [← hn]; exact hf.len
  have HFT := Lib.hid hf
  have HBW := Lib.hid hwb
  have HNC : Hid (∀ wr, Below w.heap.size w wr → Nodes wr (.slice al n cl) l) := Lib.hid (fun wr hb => by have := hl.on hb; rw [hn] at this; exact this)
  have HWD : Hid (∀ nd ∈ l, ∀ (wr : World) vi va, Below w.heap.size w wr → IRow wr vi nd.ins → Lies wr Any va nd.x.args → Calls Tryz.prog 22 #[nodeV nd vi va, .slice al n cl] wr (WordsOfPost l nd wr)) := Lib.hid (fun nd hnd wr vi va hb h1 h2 => by
    have := wordsOf_any (hk.on hb) (tab_on htab hb) (hl.on hb) hf.len h1 h2 (hf.told nd hnd)
    rw [hn] at this
    exact this)
  obtain ⟨RES, hRES⟩ : ∃ o, textO par l = o := ⟨_, rfl⟩
  have HRES : Hid (RES = if (mayO par l).2 ≠ 0 then (⟨#[]⟩, 2) else textGo l (textHead par) l) := Lib.hid (by rw [← hRES]; rfl)
  rw [hRES]
  clear hRES
  obtain ⟨q, hq⟩ : ∃ q, (mayO par l).2 = q := ⟨_, rfl⟩
  obtain ⟨p, hp⟩ : ∃ q, (mayO par l).1 = q := ⟨_, rfl⟩
  have HPAR : Hid (q = 0 → 1 ≤ par ∧ par ≤ 4) := Lib.hid (fun h0 => by
    rw [← hq] at h0
    unfold mayO at h0
    by_cases hb : boundedB par l = false
    · rw [if_pos hb] at h0; exact absurd h0 (by decide)
    · have hb' : boundedB par l = true := by simpa using hb
      unfold boundedB at hb'
      rw [Bool.and_eq_true, decide_eq_true_eq, decide_eq_true_eq] at hb'
      exact ⟨hb'.1.1, hb'.1.2.1⟩)
  rw [hq] at HRES
  rw [hp, hq] at HM
  have HWW := Lib.hid hW; have HNN := Lib.hid hN; have HN := Lib.hid hn
  rw [hn] at HM c1 ⊢
  rw [hn] at HWW
  clear hq hp hk ht htab hl hf hlc hN hwb hn hW
  rw [← HWW.out] at HM c0 c1
  by_cases hq0 : q = 0
  · have hp1 := HPAR.out hq0
    have HR : Hid (RES = textGo l (textHead par) l) := Lib.hid (HRES.out.trans (if_neg (by simp [hq0])))
    subst hq0
    have HIT : Hid (∀ wr, Calls Tryz.prog 21 #[.int .i64 par] wr fun e w' => e = .returned (.string (ba (Lib.decDigits par.toNat))) ∧ w' = wr) := Lib.hid (fun wr => by
      have := Tryz.strconv_Itoa_small par.toNat (by omega) wr
      rw [show ((par.toNat : Nat) : Int) = par by omega] at this
      exact this)
    have HDS : Hid ((ba (Lib.decDigits par.toNat)).size ≤ 2) := Lib.hid (by rw [ba_size]; exact dec_len (by omega))
    obtain ⟨D, hD⟩ : ∃ D, ba (Lib.decDigits par.toNat) = D := ⟨_, rfl⟩
    have HTH : Hid (textHead par = (⟨#[112, 97, 114, 32]⟩ ++ D) ++ ⟨#[10]⟩) := Lib.hid (by rw [← hD]; rfl)
    rw [hD] at HIT HDS
    have hds := HDS.out
    clear hD HRES HPAR hp1
    go_enter Tryz.func10, Tryz.ntmps10
    go_wp2_with fail
    refine HM.out.mono ?_
    rintro e w1 ⟨rfl, hb1⟩
    rw [HWW.out] at hb1 c0 c1
    have d0 := cell_on c0 hb1
    have d1 := cell_on c1 hb1
    have HB1 : Hid (Below w.heap.size w w1) := Lib.hid (HBW.out.trans (hb1.mono HBW.out.size))
    rw [HNN.out]
    have HCJ : Hid (∀ wr, Below w1.heap.size w1 wr → wr.cell? ⟨N, 0, none⟩ = some (.int .i64 par) ∧ wr.cell? ⟨N, 1, none⟩ = some (.slice al n cl)) := Lib.hid (fun wr hb => ⟨cell_on d0 hb, cell_on d1 hb⟩)
    clear hb1 c0 c1
    go_wp2_with fail
    refine (HIT.out _).mono ?_
    rintro e w2 ⟨rfl, rfl⟩
    go_wp2_with fail
    have HRT : Hid (textGo l ((⟨#[112, 97, 114, 32]⟩ ++ D) ++ ⟨#[10]⟩) l = RES) := Lib.hid (by rw [HR.out, HTH.out])
    have HSZ0 : Hid (((⟨#[112, 97, 114, 32]⟩ ++ D) ++ ⟨#[10]⟩ : ByteArray).size ≤ 20) := Lib.hid (by
      rw [ByteArray.size_append, ByteArray.size_append]
      show 4 + D.size + 1 ≤ 20
      omega)
    clear HR HTH hds HDS
    go_loopg [6, 26] n (fun g v6 v26 wr => ∃ (j : Nat) (T : ByteArray), j + g = n ∧ v26 = .int .i64 (j : Int) ∧ v6 = .string T ∧ T.size ≤ 20 + j * 3000001 ∧ textGo l T (l.drop j) = RES ∧ Below w2.heap.size w2 wr)
    case atStart => exact ⟨0, _, by omega, rfl, rfl, by have := HSZ0.out; omega, HRT.out, Below.refl _ _⟩
    case round =>
      obtain ⟨j, T, hjg, rfl, rfl, hTs, hgo, hbr⟩ := hrel
      have HGO := Lib.hid hgo; have HBR := Lib.hid hbr
      clear hgo hbr HRT HSZ0
      by_cases hjn : j < n
      · have hji : (j : Int) < (n : Int) := by omega
        have hjl : j < l.length := by rw [HN.out]; exact hjn
        have HB0 : Hid (Below w.heap.size w wr) := Lib.hid (HB1.out.trans (HBR.out.mono HB1.out.size))
        obtain ⟨a3, c3, hae, -, hnc⟩ := HNC.out wr HB0.out
        simp only [Value.slice.injEq] at hae
        obtain ⟨ha1, -, -⟩ := hae
        obtain ⟨bl, hab, hcy⟩ := hnc (by omega)
        subst ha1
        subst hab
        obtain ⟨hb0, vi, va, x0, x1, x2, x3, x4, x5, x6, hvi, hva⟩ := hcy j hjl
        obtain ⟨nd, hnd⟩ : ∃ x, l[j] = x := ⟨_, rfl⟩
        have hmem : nd ∈ l := by rw [← hnd]; exact List.getElem_mem hjl
        rw [hnd] at x0 x1 x3 x4 x6 hvi hva
        obtain ⟨ai, ci, hvie, -⟩ := id hvi
        obtain ⟨aa, ca, hvae, -⟩ := hva.form
        subst hvie
        subst hvae
        obtain ⟨WN, hWN⟩ : ∃ W, wr.alloc (.cells #[.string nd.uid, .int .u8 (nd.kind : Int), .slice ai nd.ins.length ci, .int .u8 (nd.x.op : Int), .int .i64 nd.x.n, .slice aa nd.x.args.length ca, .int .i64 nd.n] 50) = W := ⟨_, rfl⟩
        have HBN : Hid (Below wr.heap.size wr WN) := Lib.hid (by rw [← hWN]; exact below_made _ _)
        have HWC := Lib.hid (HWD.out nd hmem WN _ _ (HB0.out.trans (HBN.out.mono HB0.out.size)) (hvi.on HBN.out) (hva.under HBN.out))
        have hb7 := box7 hWN
        have HSTEP : Hid (textGo l T (l.drop j) = if wordsOfE nd ≠ 0 then (⟨#[]⟩, wordsOfE nd) else textGo l (T ++ (joinW (wordsOfO l nd) ++ ⟨#[10]⟩)) (l.drop (j + 1))) := Lib.hid (by
          rw [List.drop_eq_getElem_cons hjl, hnd, textGo])
        have HWS := Lib.hid (words_size HFT.out hmem)
        have HJS := Lib.hid (joinW_size HFT.out hmem)
        have hw2 : 2 ≤ (wordsOfO l nd).length := by
          unfold wordsOfO
          simp only [List.length_append, List.length_cons, List.length_nil]; omega
        obtain ⟨j0, j1⟩ := HCJ.out wr HBR.out
        have j1' := cell_on j1 HBN.out
        unfold nodeV WordsOfPost at HWC
        obtain ⟨ws, hws⟩ : ∃ x, wordsOfO l nd = x := ⟨_, rfl⟩
        obtain ⟨we, hwe⟩ : ∃ x, wordsOfE nd = x := ⟨_, rfl⟩
        rw [hws] at HWC HSTEP HWS HJS hw2
        rw [hwe] at HWC HSTEP
        have HWWN := Lib.hid hWN
        obtain ⟨d0, d1, d2, d3, d4, d5, d6⟩ := hb7
        rw [← HWWN.out] at d0 d1 d2 d3 d4 d5 d6 j1' HWC
        clear hws hwe hWN hvi hva hnd hcy hnc hb0 hjl hmem
        by_cases hwe : we = 0
        · have HST2 : Hid (textGo l (T ++ (joinW ws ++ ⟨#[10]⟩)) (l.drop (j + 1)) = RES) := Lib.hid (by rw [← HGO.out, HSTEP.out, if_neg (by simp [hwe])])
          subst hwe
          go_wp2_with fail
          refine HWC.out.mono ?_
          rintro e w3 ⟨v, rfl, ho, hb3⟩
          rw [HWWN.out] at hb3
          have HB3 := Lib.hid hb3
          obtain ⟨gv, cv, rfl, hcv, hgl, hgc⟩ : ∃ gv cv, v = .slice (some ⟨gv, 0, none⟩) ws.length cv ∧ ws.length ≤ cv ∧ gv < w3.heap.size ∧ ∀ i u, (ws.map Value.string)[i]? = some u → w3.cell? ⟨gv, i, none⟩ = some u := by
            rcases own_cases ho with ⟨e1, e2⟩ | ⟨g, cap, e1, e2, _, _, e3, e4⟩
            · omega
            · exact ⟨g, cap, e1, e2, e3, e4⟩
          have HJ := Lib.hid (Tryz.strings_Join gv 0 cv ws ⟨#[32]⟩ w3 (fun i x hx => by rw [Nat.zero_add]; exact hgc i _ (by rw [List.getElem?_map, hx]; rfl)) hgl (by have := HWS.out.1; omega) hcv (by have := HJS.out.2; exact Nat.le_trans this (by omega)))
          have HJE : Hid ((⟨(Lib.join (ws.map (·.data.toList)) (⟨#[32]⟩ : ByteArray).data.toList).toArray⟩ : ByteArray) = joinW ws) := Lib.hid rfl
          rw [HJE.out] at HJ
          obtain ⟨J, hJ⟩ : ∃ x, joinW ws = x := ⟨_, rfl⟩
          rw [hJ] at HJ HST2 HJS
          have hjs := HJS.out.1
          have hTb : T.size ≤ 3100000000 := by omega
          have HTN : Hid ((T ++ (J ++ ⟨#[10]⟩)).size ≤ 20 + (j + 1) * 3000001) := Lib.hid (by
            rw [ByteArray.size_append, ByteArray.size_append]
            show T.size + (J.size + 1) ≤ _
            omega)
          clear ho hb3 hgc hcv hgl hJ HJE d0 d1 d2 d3 d4 d5 d6 x0 x1 x2 x3 x4 x5 x6 j0 j1 j1' hw2
          go_wp2_with fail
          refine HJ.out.mono ?_
          rintro e w4 ⟨rfl, hb4⟩
          have HB4 := Lib.hid (HBR.out.trans ((HBN.out.trans ((HB3.out.trans (hb4.mono HB3.out.size)).mono HBN.out.size)).mono HBR.out.size))
          clear hb4
          go_wp2_with fail
          go_roundg (gk - 1)
          case rel => exact ⟨j + 1, _, by omega, by go_num, rfl, HTN.out, HST2.out, HB4.out⟩
          case measure => omega
        · have hne : (we != 0) = true := by simp [hwe]
          have HST2 : Hid (RES = (⟨#[]⟩, we)) := Lib.hid (by rw [← HGO.out, HSTEP.out, if_pos hwe])
          clear hwe
          go_wp2_with fail
          refine HWC.out.mono ?_
          rintro e w3 ⟨v, rfl, ho, hb3⟩
          rw [HWWN.out] at hb3
          have HB3 := Lib.hid (HB0.out.trans ((HBN.out.trans (hb3.mono HBN.out.size)).mono HB0.out.size))
          clear ho hb3
          go_wp2_with fail
          try rw [Exit.noGoto_ret]
          go_ret2
          exact ⟨by rw [HST2.out]; rfl, HB3.out⟩
      · have hji : ¬ (j : Int) < (n : Int) := by omega
        have HE : Hid (RES = (T, 0)) := Lib.hid (by rw [← HGO.out, List.drop_eq_nil_of_le (by rw [HN.out]; omega)]; rfl)
        have HB0 : Hid (Below w.heap.size w wr) := Lib.hid (HB1.out.trans (HBR.out.mono HB1.out.size))
        clear hjn
        go_wp2_with fail
        go_ret2
        exact ⟨by rw [HE.out]; rfl, HB0.out⟩
  · have HR : Hid (RES = (⟨#[]⟩, 2)) := Lib.hid (HRES.out.trans (if_pos hq0))
    have hne : (q != 0) = true := by simp [hq0]
    rw [HR.out]
    clear HRES HPAR hq0 HR
    go_enter Tryz.func10, Tryz.ntmps10
    go_wp2_with fail
    refine HM.out.mono ?_
    rintro e w1 ⟨rfl, hb1⟩
    rw [HWW.out] at hb1
    have HB1 := Lib.hid (HBW.out.trans (hb1.mono HBW.out.size))
    clear hb1
    go_wp2_with fail
    go_ret2
    exact ⟨rfl, HB1.out⟩
end Go.Proofs.YtimjpgmgpgpanaaGreatDoor.sc

/- The words of a node's line. -/
import Derived.Test.YtimjpgmgpgpanaaGreatDoorScK
import Derived.Test.YtimjpgmgpgpanaaGreatDoorMTm
namespace Go.Proofs.YtimjpgmgpgpanaaGreatDoor.sc
set_option linter.unusedSimpArgs false
set_option linter.unusedVariables false
open Go.RowKit nam exp jb

theorem line_any {x : Ex} {v : Value} {F : Nat → Prop} {w : World} (hx : Lies w F v x.args) (hs : x.size ≤ 1000000) (hn : Num x) (htab : exp.Tab w.heap.size w) :
    Calls Tryz.prog 47 #[exV x v] w fun e w' => e = .returned (.tuple #[.string (lineS x), .int .i64 (lineC x)]) ∧ Below w.heap.size w w' := by
  cases hg : good FM x 1 with
  | true => exact line_yes hx hs hg hn htab
  | false => exact line_no hx hs hg
theorem tab_on {w w' : World} (h : exp.Tab w.heap.size w) (hb : Below w.heap.size w w') : exp.Tab w'.heap.size w' := tab_up h hb hb.size
def nd0 : Nd := ⟨⟨#[]⟩, 0, [], Ex.zero, 0⟩
def uidAt (l : List Nd) (i : Int) : ByteArray := (l.getD i.toNat nd0).uid
def wordsN (nd : Nd) : List ByteArray := if hasN nd.kind then [ba (Lib.decDigits nd.n.toNat)] else []
def wordsX (nd : Nd) : List ByteArray := if hasX nd.kind then [⟨#[58]⟩, lineS nd.x] else []
def wordsOfO (l : List Nd) (nd : Nd) : List ByteArray := [nd.uid, wordK nd.kind] ++ nd.ins.map (uidAt l) ++ wordsN nd ++ wordsX nd
def wordsOfE (nd : Nd) : Int := if hasX nd.kind then lineC nd.x else 0
/-- What may be told of. -/
structure Told (l : List Nd) (nd : Nd) : Prop where
  kind : nd.kind < 10
  ins : ∀ i ∈ nd.ins, 0 ≤ i ∧ i < l.length
  few : nd.ins.length ≤ 1000
  n : 0 ≤ nd.n ∧ nd.n < 100
  num : Num nd.x
  size : nd.x.size ≤ 1000000
def WIn (w wr : World) (N : Nat) (nc kc : Array Value) (v : Value) (l : List ByteArray) : Prop :=
  wr.ownsRow w.heap.size 9 1 v l.length (l.map Value.string) ∧ wr.heap[N]? = some (.cells nc 50 (0, 0)) ∧ wr.heap[N + 1]? = some (.cells kc 86 (0, 0)) ∧ Below w.heap.size w wr
theorem own_made {w : World} {B N : Nat} {t : TypeId} {xs : Array Value} (hN : w.heap.size = N) (hB : B ≤ N) (hx : xs.size ≤ maxLen) : (w.alloc (.cells xs t)).ownsRow B t 1 (.slice (some ⟨N, 0, none⟩) xs.size xs.size) xs.size xs.toList := by
  refine ⟨by simp, .inr ⟨N, xs.size, xs, rfl, hB, heap_last hN.symm, Nat.le_refl _, hx, by simp, ?_⟩⟩
  rw [Nat.mul_one, List.take_of_length_le (by simp)]
theorem WIn.under {w wr w1 : World} {N : Nat} {nc kc : Array Value} {v : Value} {l : List ByteArray} (h : WIn w wr N nc kc v l) (hb : Below wr.heap.size wr w1) : WIn w w1 N nc kc v l :=
  ⟨own_below' h.1 hb, (hb.block N (Array.getElem?_eq_some_iff.1 h.2.1).1).trans h.2.1, (hb.block (N + 1) (Array.getElem?_eq_some_iff.1 h.2.2.1).1).trans h.2.2.1, h.2.2.2.trans (hb.mono h.2.2.2.size)⟩
theorem WIn.more {w wr w2 : World} {N : Nat} {nc kc : Array Value} {v v' : Value} {l more : List ByteArray} {o : Obj} (h : WIn w wr N nc kc v l) (k4 : w2.ownsRow w.heap.size 9 1 v' (l.length + more.length) (l.map Value.string ++ more.map Value.string)) (g4 : (wr.alloc o).grownBy w2 v.ownBlock) : WIn w w2 N nc kc v' (l ++ more) := by
  obtain ⟨h1, h2, h3, h4⟩ := h
  have keep : ∀ (b : Nat) (c : Array Value) (t : TypeId) (fr : Nat × Nat), wr.heap[b]? = some (Obj.cells c t fr) → t ≠ 9 → w2.heap[b]? = some (Obj.cells c t fr) := fun b c t fr hb ht => by
    have hlt := (Array.getElem?_eq_some_iff.1 hb).1
    rw [g4.block b (by rw [World.size_alloc]; omega) (fun e => own_ty h1 hb ht e.symm), Below.heap_alloc _ _ _ hlt]
    exact hb
  refine ⟨?_, keep _ _ _ _ h2 (by decide), keep _ _ _ _ h3 (by decide), (h4.alloc h4.size _).grown g4 (by rw [World.size_alloc]; have := h4.size; omega) (fun j hj => (h1.lt j hj).1)⟩
  rw [List.length_append, List.map_append]
  exact k4
theorem cell_two_new (w : World) (x y : Value) (t : TypeId) : ∀ j u, [x, y][j]? = some u → (w.alloc (.cells #[x, y] t)).cell? ((⟨w.heap.size, 0, none⟩ : Addr).add j) = some u := by
  intro j u hj
  match j, hj with
  | 0, hj => simp at hj; subst hj; simp [Addr.add]
  | 1, hj => simp at hj; subst hj; simp [Addr.add]
  | (j + 2), hj => simp at hj
def WordsOfPost (l : List Nd) (nd : Nd) (w : World) (e : Ending) (w' : World) : Prop :=
  ∃ v, e = .returned (.tuple #[v, .int .i64 (wordsOfE nd)]) ∧ w'.ownsRow w.heap.size 9 1 v (wordsOfO l nd).length ((wordsOfO l nd).map Value.string) ∧ Below w.heap.size w w'
set_option maxHeartbeats 3200000 in
set_option maxRecDepth 1000000 in
theorem wordsOf_any {w : World} {vl vi va : Value} {l : List Nd} {nd : Nd} (hk : KTab w) (ht : exp.Tab w.heap.size w) (hl : Nodes w vl l) (hll : l.length ≤ 1000) (hvi : IRow w vi nd.ins) (hva : Lies w Any va nd.x.args) (hT : Told l nd) :
    Calls Tryz.prog 22 #[nodeV nd vi va, vl] w (WordsOfPost l nd w) := by
  obtain ⟨i0, hi, hz0, hz1, hz2⟩ := info_parts info9
  obtain ⟨ai, ci, rfl, hic⟩ := id hvi
  obtain ⟨aa, ca, rfl, -⟩ := hva.form
  obtain ⟨al, cl, rfl, -, hlc⟩ := id hl
  obtain ⟨N, hN⟩ : ∃ N, w.heap.size = N := ⟨_, rfl⟩
  obtain ⟨n, hn⟩ : ∃ n, nd.ins.length = n := ⟨_, rfl⟩
  have hn1000 : n ≤ 1000 := by rw [← hn]; exact hT.few
  have HT := Lib.hid hT
  obtain ⟨k, hk0⟩ : ∃ k, nd.kind = k := ⟨_, rfl⟩
  have hk10 : k < 10 := by rw [← hk0]; exact hT.kind
  have hki : (k : Int) < 10 := by omega
  obtain ⟨nc, hnc⟩ : ∃ nc : Array Value, #[.string nd.uid, .int .u8 (k : Int), .slice ai n ci, .int .u8 (nd.x.op : Int), .int .i64 nd.x.n, .slice aa nd.x.args.length ca, .int .i64 nd.n] = nc := ⟨_, rfl⟩
  obtain ⟨kc, hkc⟩ : ∃ kc : Array Value, #[.string (wordK k), .bool (hasN k), .bool (hasX k)] = kc := ⟨_, rfl⟩
  obtain ⟨W1, hW1⟩ : ∃ W, w.alloc (.cells #[.string nd.uid, .int .u8 (k : Int), .slice ai n ci, .int .u8 (nd.x.op : Int), .int .i64 nd.x.n, .slice aa nd.x.args.length ca, .int .i64 nd.n] 50) = W := ⟨_, rfl⟩
  obtain ⟨W2, hW2⟩ : ∃ W, W1.alloc (.cells #[.string (wordK k), .bool (hasN k), .bool (hasX k)] 86) = W := ⟨_, rfl⟩
  have hb1 : Below w.heap.size w W1 := by rw [← hW1]; exact below_made _ _
  have hb2 : Below w.heap.size w W2 := by rw [← hW2]; exact hb1.alloc hb1.size _
  have hs1 : W1.heap.size = N + 1 := by rw [← hW1, World.size_alloc, hN]
  have hs2 : W2.heap.size = N + 2 := by rw [← hW2, World.size_alloc, hs1]
  have hh1 : W1.heap[N]? = some (.cells nc 50 (0, 0)) := by rw [← hW1, ← hnc]; exact heap_last hN.symm
  have hh2 : W2.heap[N]? = some (.cells nc 50 (0, 0)) := by rw [← hW2]; exact heap_old hh1
  have hh3 : W2.heap[N + 1]? = some (.cells kc 86 (0, 0)) := by rw [← hW2, ← hkc]; exact heap_last hs1.symm
  obtain ⟨W3, hW3⟩ : ∃ W, W2.alloc (.cells #[.string nd.uid, .string (wordK k)] 9) = W := ⟨_, rfl⟩
  have d2 : W3.cell? ⟨N, 2, none⟩ = some (.slice ai n ci) := by rw [← hW3]; exact cell_of (heap_old hh2) (by rw [← hnc]; rfl)
  have HST : Hid (WIn w W3 N nc kc (.slice (some ⟨N + 2, 0, none⟩) 2 2) [nd.uid, wordK k]) := Lib.hid (by
    rw [← hW3]
    exact ⟨own_made (xs := #[.string nd.uid, .string (wordK k)]) hs2 (by omega) (by show 2 ≤ maxLen; decide), heap_old hh2, heap_old hh3, hb2.alloc hb2.size _⟩)
  have c0 : W1.cell? ⟨N, 0, none⟩ = some (.string nd.uid) := cell_of hh1 (by rw [← hnc]; rfl)
  have c1 : W1.cell? ⟨N, 1, none⟩ = some (.int .u8 (k : Int)) := cell_of hh1 (by rw [← hnc]; rfl)
  obtain ⟨r0, r1, r2⟩ := (hk.on hb1).row hk10
  have d0 : W2.cell? ⟨N, 0, none⟩ = some (.string nd.uid) := cell_of hh2 (by rw [← hnc]; rfl)
  have e0 : W2.cell? ⟨N + 1, 0, none⟩ = some (.string (wordK k)) := cell_of hh3 (by rw [← hkc]; rfl)
  have HIC : Hid (∀ wr, Below w.heap.size w wr → IRow wr (.slice ai nd.ins.length ci) nd.ins) := Lib.hid (fun wr hb => hvi.on hb)
  have HNC : Hid (∀ wr, Below w.heap.size w wr → Nodes wr (.slice al l.length cl) l) := Lib.hid (fun wr hb => hl.on hb)
  have HLI : Hid (∀ wr, Below w.heap.size w wr → Calls Tryz.prog 47 #[exV nd.x (.slice aa nd.x.args.length ca)] wr fun e w' => e = .returned (.tuple #[.string (lineS nd.x), .int .i64 (lineC nd.x)]) ∧ Below wr.heap.size wr w') := Lib.hid (fun wr hb => line_any (hva.under hb) hT.size hT.num (tab_on ht hb))
  unfold exV at HLI
  have HITO : Hid (∀ wr, Calls Tryz.prog 21 #[.int .i64 nd.n] wr fun e w' => e = .returned (.string (ba (Lib.decDigits nd.n.toNat))) ∧ w' = wr) := Lib.hid (fun wr => by
    have := Tryz.strconv_Itoa_small nd.n.toNat (by have := hT.n; omega) wr
    rw [show ((nd.n.toNat : Nat) : Int) = nd.n by have := hT.n; omega] at this
    exact this)
  have HWO : Hid (wordsOfO l nd = [nd.uid, wordK k] ++ nd.ins.map (uidAt l) ++ (if hasN k then [ba (Lib.decDigits nd.n.toNat)] else []) ++ (if hasX k then [⟨#[58]⟩, lineS nd.x] else []) ∧ wordsOfE nd = if hasX k then lineC nd.x else 0) := Lib.hid (by
    unfold wordsOfO wordsOfE wordsN wordsX; rw [hk0]; exact ⟨rfl, rfl⟩)
  have HN := Lib.hid hn
  have HLL := Lib.hid hll
  have HNN := Lib.hid hN
  have HW1 := Lib.hid hW1; have HW2 := Lib.hid hW2; have HW3 := Lib.hid hW3
  have HNCC := Lib.hid hnc; have HKCC := Lib.hid hkc
  have HSS := Lib.hid (And.intro hs1 hs2)
  have hbb : Hid (Below w.heap.size w W2) := Lib.hid hb2
  unfold nodeV
  rw [hn, hk0]
  clear hk ht hl hll hvi hva hT hN hic hlc hn hk0 hb1 hb2 hh1 hh2 hh3 hW1 hW2 hW3 hnc hkc hs1 hs2
  go_enter Tryz.func22, Tryz.ntmps22
  go_upto_region 1 with fail
  rw [HW1.out, HNN.out]
  go_upto_region 2 with fail
  rw [HW2.out, HSS.out.1]
  go_upto_region 3 with fail
  rw [HW3.out, HSS.out.2]
  go_wp2_with fail
  obtain ⟨nl, hnl⟩ : ∃ nl, l.length = nl := ⟨_, rfl⟩
  have HNL := Lib.hid hnl
  rw [hnl]
  clear hnl
  go_loopg [7, 24] n (fun g v7 v24 wr => ∃ (j : Nat), j + g = n ∧ v24 = .int .i64 (j : Int) ∧ WIn w wr N nc kc v7 ([nd.uid, wordK k] ++ (nd.ins.take j).map (uidAt l)))
  case atStart => exact ⟨0, by omega, rfl, by rw [List.take_zero, List.map_nil, List.append_nil]; exact HST.out⟩
  case round =>
    obtain ⟨j, hjg, rfl, hW⟩ := hrel
    have HW := Lib.hid hW; clear hW HST
    by_cases hjn : j < n
    · have hji : (j : Int) < (n : Int) := by omega
      have hjl : j < nd.ins.length := by rw [HN.out]; exact hjn
      obtain ⟨a2, c2, hae, hic⟩ := HIC.out wr HW.out.2.2.2
      simp only [Value.slice.injEq] at hae
      obtain ⟨ha1, -, -⟩ := hae
      obtain ⟨bi, oi, hab, -, hcx⟩ := hic (by omega)
      subst ha1
      subst hab
      have hcj := hcx j hjl
      obtain ⟨hq0, hq1⟩ := HT.out.ins _ (List.getElem_mem hjl)
      obtain ⟨z, hz⟩ : ∃ z, nd.ins[j] = z := ⟨_, rfl⟩
      rw [hz] at hcj hq0 hq1
      obtain ⟨q, rfl⟩ : ∃ q : Nat, z = q := ⟨z.toNat, by omega⟩
      have hql : q < l.length := by omega
      have hqi : (q : Int) < (nl : Int) := by rw [← HNL.out]; omega
      obtain ⟨a3, c3, hae, -, hnc⟩ := HNC.out wr HW.out.2.2.2
      simp only [Value.slice.injEq] at hae
      obtain ⟨ha1, -, -⟩ := hae
      obtain ⟨bl, hab, hcy⟩ := hnc (by omega)
      subst ha1
      subst hab
      have hnode := (hcy q hql).2
      obtain ⟨x1, x2, hu, -⟩ := hnode
      obtain ⟨U, hU⟩ : ∃ U, l[q].uid = U := ⟨_, rfl⟩
      rw [hU] at hu
      have HUA : Hid (([nd.uid, wordK k] ++ (nd.ins.take j).map (uidAt l)) ++ [U] = [nd.uid, wordK k] ++ (nd.ins.take (j + 1)).map (uidAt l)) := Lib.hid (by
        rw [List.take_succ_eq_append_getElem hjl, List.map_append, List.append_assoc, hz, List.map_singleton]
        congr 2
        unfold uidAt
        rw [show ((q : Int)).toNat = q by omega, List.getD_eq_getElem?_getD, List.getElem?_eq_getElem hql, ← hU]; rfl)
      have HSZ : Hid (∀ o, w.heap.size ≤ (wr.alloc o).heap.size) := Lib.hid (fun o => by rw [World.size_alloc]; have := HW.out.2.2.2.size; omega)
      have hlen : ([nd.uid, wordK k] ++ (nd.ins.take j).map (uidAt l)).length = 2 + j := by rw [List.length_append, List.length_map, List.length_take]; simp; omega
      obtain ⟨done, hdone⟩ : ∃ d, [nd.uid, wordK k] ++ (nd.ins.take j).map (uidAt l) = d := ⟨_, rfl⟩
      rw [hdone] at HW HUA hlen
      have hdl : done.length ≤ 1002 := by omega
      clear hcx hcy hic hnc hz hjl hU hql hdone hlen hjn hq0 hq1
      go_wp2_with (at_builtin; refine wpList_append_own _ rfl (.tmp 28) (.tmp 34) 41 rfl w.heap.size 9 i0 (.string ⟨#[]⟩) 1 16 Tryz.underlying41 hi hz0 hz1 hz2 rfl (by decide) _ _ _ rfl (HW.out.1.alloc _) ⟨_, 0, none⟩ 1 1 [.string U] rfl rfl (cell_one_new _ _ _) (by simp [Value.oneCell']) (by unfold maxLen; omega) (by omega) (HSZ.out _) ?_)
      intro v' w2 k4 g4 _
      have HM := Lib.hid (HW.out.more (more := [U]) k4 g4)
      clear k4 g4
      go_wp2
      go_roundg (gk - 1)
      case rel => exact ⟨j + 1, by omega, by go_num, by rw [← HUA.out]; exact HM.out⟩
      case measure => omega
    · have hji : ¬ (j : Int) < (n : Int) := by omega
      have hjt : nd.ins.take j = nd.ins := List.take_of_length_le (by rw [HN.out]; omega)
      rw [hjt] at HW
      have hlen : ([nd.uid, wordK k] ++ nd.ins.map (uidAt l)).length = 2 + n := by rw [List.length_append, List.length_map, HN.out]; rfl
      obtain ⟨done, hdone⟩ : ∃ d, [nd.uid, wordK k] ++ nd.ins.map (uidAt l) = d := ⟨_, rfl⟩
      rw [hdone] at HW HWO hlen
      have hdl : done.length ≤ 1002 := by omega
      clear hjt hdone hlen hjn
      obtain ⟨bN, hbN⟩ : ∃ b, hasN k = b := ⟨_, rfl⟩
      obtain ⟨bX, hbX⟩ : ∃ b, hasX k = b := ⟨_, rfl⟩
      have HNX : Hid (bN = true → bX = true → False) := Lib.hid (fun h1 h2 => by
        rw [h1] at hbN; rw [h2] at hbX
        unfold hasN at hbN; unfold hasX at hbX
        simp at hbN hbX; omega)
      have HKC2 : Hid (kc = #[.string (wordK k), .bool bN, .bool bX]) := Lib.hid (by rw [← HKCC.out, hbN, hbX])
      rw [hbN, hbX] at HWO
      clear hbN hbX
      have HSZ : Hid (∀ wx o, Below wr.heap.size wr wx → w.heap.size ≤ (wx.alloc o).heap.size) := Lib.hid (fun wx o hb => by rw [World.size_alloc]; have := HW.out.2.2.2.size; have := hb.size; omega)
      cases bN with
      | false =>
        cases bX with
        | false =>
          have k1 : wr.cell? ⟨N + 1, 1, none⟩ = some (.bool false) := cell_of HW.out.2.2.1 (by rw [HKC2.out]; rfl)
          have k2 : wr.cell? ⟨N + 1, 2, none⟩ = some (.bool false) := cell_of HW.out.2.2.1 (by rw [HKC2.out]; rfl)
          go_wp2_with fail
          go_ret2
          unfold WordsOfPost
          rw [HWO.out.1, HWO.out.2]
          exact ⟨_, rfl, by simpa using HW.out.1, HW.out.2.2.2⟩
        | true =>
          have k1 : wr.cell? ⟨N + 1, 1, none⟩ = some (.bool false) := cell_of HW.out.2.2.1 (by rw [HKC2.out]; rfl)
          have k2 : wr.cell? ⟨N + 1, 2, none⟩ = some (.bool true) := cell_of HW.out.2.2.1 (by rw [HKC2.out]; rfl)
          have m3 : wr.cell? ⟨N, 3, none⟩ = some (.int .u8 (nd.x.op : Int)) := cell_of HW.out.2.1 (by rw [← HNCC.out]; rfl)
          have m4 : wr.cell? ⟨N, 4, none⟩ = some (.int .i64 nd.x.n) := cell_of HW.out.2.1 (by rw [← HNCC.out]; rfl)
          have m5 : wr.cell? ⟨N, 5, none⟩ = some (.slice aa nd.x.args.length ca) := cell_of HW.out.2.1 (by rw [← HNCC.out]; rfl)
          have HL1 := Lib.hid (HLI.out wr HW.out.2.2.2)
          obtain ⟨LS, hLS⟩ : ∃ x, lineS nd.x = x := ⟨_, rfl⟩
          obtain ⟨LC, hLC⟩ : ∃ x, lineC nd.x = x := ⟨_, rfl⟩
          rw [hLS, hLC] at HL1 HWO
          clear hLS hLC
          go_wp2_with fail
          refine HL1.out.mono ?_
          rintro e w1 ⟨rfl, hb1⟩
          have HW1 := Lib.hid (HW.out.under hb1)
          have HSZ1 := Lib.hid (fun o => HSZ.out w1 o hb1)
          clear hb1 m3 m4 m5 k1 k2
          go_wp2_with (at_builtin; refine wpList_append_own _ rfl (.tmp 55) (.tmp 57) 41 rfl w.heap.size 9 i0 (.string ⟨#[]⟩) 1 16 Tryz.underlying41 hi hz0 hz1 hz2 rfl (by decide) _ _ _ rfl (HW1.out.1.alloc _) ⟨_, 0, none⟩ 2 2 [.string ⟨#[58]⟩, .string LS] rfl rfl (cell_two_new _ _ _ _) (by simp [Value.oneCell']) (by unfold maxLen; omega) (by omega) (HSZ1.out _) ?_)
          intro v' w2 k4 g4 _
          have HM := Lib.hid (HW1.out.more (more := [⟨#[58]⟩, LS]) k4 g4)
          clear k4 g4
          go_wp2_with fail
          go_ret2
          unfold WordsOfPost
          rw [HWO.out.1, HWO.out.2]
          exact ⟨_, rfl, by simpa using HM.out.1, HM.out.2.2.2⟩
      | true =>
        cases bX with
        | false =>
          have k1 : wr.cell? ⟨N + 1, 1, none⟩ = some (.bool true) := cell_of HW.out.2.2.1 (by rw [HKC2.out]; rfl)
          have k2 : wr.cell? ⟨N + 1, 2, none⟩ = some (.bool false) := cell_of HW.out.2.2.1 (by rw [HKC2.out]; rfl)
          have m6 : wr.cell? ⟨N, 6, none⟩ = some (.int .i64 nd.n) := cell_of HW.out.2.1 (by rw [← HNCC.out]; rfl)
          obtain ⟨D, hD⟩ : ∃ D, ba (Lib.decDigits nd.n.toNat) = D := ⟨_, rfl⟩
          rw [hD] at HITO HWO
          clear hD
          have HSZ1 := Lib.hid (fun o => HSZ.out wr o (Below.refl _ _))
          go_wp2_with fail
          refine (HITO.out _).mono ?_
          rintro e w1 ⟨rfl, rfl⟩
          go_wp2_with (at_builtin; refine wpList_append_own _ rfl (.tmp 39) (.tmp 43) 41 rfl w.heap.size 9 i0 (.string ⟨#[]⟩) 1 16 Tryz.underlying41 hi hz0 hz1 hz2 rfl (by decide) _ _ _ rfl (HW.out.1.alloc _) ⟨_, 0, none⟩ 1 1 [.string D] rfl rfl (cell_one_new _ _ _) (by simp [Value.oneCell']) (by unfold maxLen; omega) (by omega) (HSZ1.out _) ?_)
          intro v' w2 k4 g4 _
          have HM := Lib.hid (HW.out.more (more := [D]) k4 g4)
          have k2 : w2.cell? ⟨N + 1, 2, none⟩ = some (.bool false) := cell_of HM.out.2.2.1 (by rw [HKC2.out]; rfl)
          clear k4 g4
          go_wp2_with fail
          go_ret2
          unfold WordsOfPost
          rw [HWO.out.1, HWO.out.2]
          exact ⟨_, rfl, by simpa using HM.out.1, HM.out.2.2.2⟩
        | true =>
          exact (HNX.out rfl rfl).elim
end Go.Proofs.YtimjpgmgpgpanaaGreatDoor.sc

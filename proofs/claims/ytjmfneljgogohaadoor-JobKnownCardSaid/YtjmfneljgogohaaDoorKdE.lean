/- What look's closure answers: walked. -/
import Derived.Test.YtjmfneljgogohaaDoorKdD
import Derived.Deep.DeepCutAuto
import Derived.Deep.LoopGhost
namespace Go.Proofs.YtjmfneljgogohaaDoor.exp
set_option linter.unusedSimpArgs false
set_option linter.unusedVariables false
open Go.RowKit nam
open Go.ChangeMaps (setBlock heap_setBlock_same heap_setBlock_other)

def rowC (o : Nat) (l : List Nat) : Array Value := #[.int .u8 (o : Int), .int .u8 ((l.getD 0 0 : Nat) : Int), .int .u8 ((l.getD 1 0 : Nat) : Int), .int .u8 ((l.getD 2 0 : Nat) : Int)]
theorem rowC_key (o : Nat) (l : List Nat) : Value.agg (rowC o l) = kR (rw3 o l) := rfl
theorem rowC_snoc {o k t : Nat} {l : List Nat} (hl : l.length = k) (hk : k < 3) : (rowC o l).setIfInBounds (1 + k) (.int .u8 (t : Int)) = rowC o (l ++ [t]) := by
  match k, l, hl with
  | 0, [], _ => rfl
  | 1, [a], _ => rfl
  | 2, [a, b], _ => rfl
  | k + 3, _, _ => omega
structure LRnd (W : World) (mb tb bm ba bi bt : Nat) (w : World) (A : Bool) (x : Ex) (N k : Nat) (wr : World) (mr : Addr → Option Nat) : Prop where
  lk : Lk W mb tb bm ba bi bt wr mr (A || x.op == 4 || accs (x.args.take k))
  only : Only (LkF mb ba) w wr
  row : wr.heap[N]? = some (.cells (rowC x.op (tys (x.args.take k))) 95 (0, 0))
  hN : w.heap.size ≤ N
theorem rowC_at {o k : Nat} {l : List Nat} (hk : k < 3) : (rowC o l)[1 + k]? = some (.int .u8 ((l.getD k 0 : Nat) : Int)) := by
  rcases (show k = 0 ∨ k = 1 ∨ k = 2 by omega) with rfl | rfl | rfl <;> rfl
theorem LRnd.apart {W : World} {mb tb bm ba bi bt : Nat} {w : World} {A : Bool} {x : Ex} {N k : Nat} {wr : World} {mr : Addr → Option Nat} (h : LRnd W mb tb bm ba bi bt w A x N k wr mr) : ¬ LkF mb ba N := fun hf => by
  have hr := h.row
  rcases hf with rfl | rfl
  · obtain ⟨es, clock, h1, _⟩ := h.lk.mp.is
    rw [h1] at hr; cases hr
  · rw [h.lk.b2] at hr; simp at hr
/-- A part was told of: the next round's. -/
theorem LRnd.next {W : World} {mb tb bm ba bi bt : Nat} {w : World} {A : Bool} {x : Ex} {N k : Nat} {wr : World} {mr : Addr → Option Nat} (h : LRnd W mb tb bm ba bi bt w A x N k wr mr) (hk : k < x.args.length) (hk3 : k < 3)
    {w' : World} {m' : Addr → Option Nat} (hl : Lk W mb tb bm ba bi bt w' m' ((A || x.op == 4 || accs (x.args.take k)) || x.args[k].acc)) (ho : Only (LkF mb ba) wr w') :
    LRnd W mb tb bm ba bi bt w A x N (k + 1) (w'.setCell ⟨N, 1 + k, none⟩ (.int .u8 (x.args[k].ty : Int))) m' := by
  have hn : ¬ LkF mb ba N := fun hf => by
    have hr := h.row
    rcases hf with rfl | rfl
    · obtain ⟨es, clock, h1, _⟩ := h.lk.mp.is
      rw [h1] at hr; cases hr
    · rw [h.lk.b2] at hr; simp at hr
  have hr : w'.heap[N]? = some (.cells (rowC x.op (tys (x.args.take k))) 95 (0, 0)) := (ho.block N (Array.getElem?_eq_some_iff.1 h.row).1 hn).trans h.row
  have hon : Only (fun j => j = N) w' (w'.setCell ⟨N, 1 + k, none⟩ (.int .u8 (x.args[k].ty : Int))) := Only.setCell _ _ _ _ rfl
  refine ⟨?_, ⟨ho.os.trans h.only.os, ho.tape.trans h.only.tape, ho.output.trans h.only.output, Nat.le_trans h.only.size (Nat.le_trans ho.size hon.size), fun j hj hf => ?_⟩, ?_, h.hN⟩
  · have := hl.other hon (fun j hj => by subst hj; exact ⟨_, hr⟩)
    rw [accs_take hk, ← Bool.or_assoc]
    exact this
  · have := h.hN
    have h1 := h.only.size
    have h2 := ho.size
    rw [hon.block j (by omega) (by omega), ho.block j (by omega) hf]
    exact h.only.block j hj hf
  · rw [heap_setCell_same w' N (1 + k) _ 95 _ hr, rowC_snoc (by rw [tys_len, List.length_take]; omega) hk3, tys_take hk]
theorem fit_part {x y : Ex} (h : Fit x) (hy : y ∈ x.args) : Fit y := ((fit_eq x).1 h).2 y hy
theorem fit_three {x : Ex} (h : Fit x) : x.args.length ≤ 3 := fitsB_three ((fit_eq x).1 h).1

set_option maxHeartbeats 1600000 in
set_option maxRecDepth 1000000 in
theorem of_any (W : World) (mb tb bm ba bi bt : Nat) : ∀ (s : Nat), s ≤ 1000000 → ∀ (x : Ex), x.size ≤ s → Fit x → ∀ (w : World) (m : Addr → Option Nat) (A : Bool) (b o : Nat), Lk W mb tb bm ba bi bt w m A → At W Any b o x →
    Calls Tryd.prog 59 #[.pointer (some ⟨b, o, none⟩), ptr bm, ptr ba, ptr bi, ptr bt] w (LPost W mb tb bm ba bi bt w A x) := by
  intro s
  induction s with
  | zero => intro _ x hx; have := size_pos x; omega
  | succ s ih =>
    intro hs x hx hfit w m A b o h ha
    cases hm : m ⟨b, o, none⟩ with
    | some v => exact of_met h ha hm
    | none =>
    have cm : w.cell? ⟨bm, 0, none⟩ = some (.map (some mb)) := cell_of h.b1 rfl
    have hGA : GA W ⟨b, o, none⟩ := by obtain ⟨cur, v, _, h2, _⟩ := ha; exact ⟨cur, h2⟩
    have hl := h.mp.look (keyG h.tr) (a := ⟨b, o, none⟩) hGA Tryd.underlying90 (z := .int .u8 0) (by kernel_rfl) true
    rw [hm] at hl
    simp only [Option.elim, kA, if_true, Option.isSome_none] at hl
    have ca : w.cell? ⟨ba, 0, none⟩ = some (.bool A) := cell_of h.b2 rfl
    have fa : w.frozen? ⟨ba, 0, none⟩ = false := by simp [World.frozen?, h.b2]
    obtain ⟨AB, hAB⟩ : ∃ AB, (A || x.op == 4) = AB := ⟨_, rfl⟩
    obtain ⟨hset, hson⟩ := h.set (B := AB) (fun hA => by rw [← hAB, hA]; rfl)
    obtain ⟨cur, va, _, hcur, g0, g1, g2, hlies⟩ := ha
    have c0 : w.cell? ⟨b, o, none⟩ = some (.int .u8 (x.op : Int)) := cell_of ((h.tr b cur hcur).trans hcur) g0
    obtain ⟨a, c, rfl, hch⟩ := hlies.form
    have hsz : (w.setCell ⟨ba, 0, none⟩ (.bool AB)).heap.size = w.heap.size := by simp
    have HS := Lib.hid (And.intro hset (And.intro hson hsz)); have HGA := Lib.hid hGA
    have HAt : Hid (At W Any b o x) := Lib.hid ⟨cur, _, trivial, hcur, g0, g1, g2, hlies⟩
    have HCH := Lib.hid hch; have HCUR := Lib.hid hcur; have HAB := Lib.hid hAB; have HFIT := Lib.hid hfit
    have hop4 : ((x.op : Int) == 4) = (x.op == 4) := by rw [Bool.eq_iff_iff]; simp only [beq_iff_eq]; omega
    clear h hset hson hcur hch hlies hfit hm hGA g1 hsz
    unfold ptr
    go_enter Tryd.func59, Tryd.ntmps59
    go_upto_region 4 with fail
    go_cut [26] (fun t w1 => t = .bool AB ∧ w1 = w.setCell ⟨ba, 0, none⟩ (.bool AB))
    case first =>
      cases A with
      | true =>
        rw [Bool.true_or] at hAB
        subst hAB
        go_wp2_with fail
        go_meet
        exact ⟨rfl, rfl⟩
      | false =>
        rw [Bool.false_or] at hAB
        rw [hAB] at hop4
        go_wp2_with fail
        go_meet
        exact ⟨rfl, rfl⟩
    case rest =>
      rename World => w1
      obtain ⟨rfl, rfl⟩ := hcut
      clear c0 cm ca fa hl
      obtain ⟨w1, hw1⟩ : ∃ w1, w.setCell ⟨ba, 0, none⟩ (.bool AB) = w1 := ⟨_, rfl⟩
      rw [hw1] at HS ⊢
      clear hw1
      have c0 : w1.cell? ⟨b, o, none⟩ = some (.int .u8 (x.op : Int)) := cell_of ((HS.out.1.tr b cur HCUR.out).trans HCUR.out) g0
      have c2 : w1.cell? ⟨b, o + 2, none⟩ = some (.slice a x.args.length c) := cell_of ((HS.out.1.tr b cur HCUR.out).trans HCUR.out) g2
      obtain ⟨N, hN⟩ : ∃ N, w1.heap.size = N := ⟨_, rfl⟩
      obtain ⟨W2, hW2⟩ : ∃ W2, w1.alloc (.cells #[.int .u8 (x.op : Int), .int .u8 0, .int .u8 0, .int .u8 0] 95) = W2 := ⟨_, rfl⟩
      have HR0 : Hid (LRnd W mb tb bm ba bi bt w A x N 0 W2 m ∧ W2.cell? ⟨b, o + 2, none⟩ = some (.slice a x.args.length c)) := Lib.hid (by
        obtain ⟨lk1, on1, sz1⟩ := HS.out
        have hb : Below w1.heap.size w1 W2 := by rw [← hW2]; exact (Below.refl _ _).alloc (Nat.le_refl _) _
        have ho : Only (fun _ => False) w1 W2 := Only.of_below hb
        refine ⟨⟨?_, on1.then (ho.mono fun _ hf => hf.elim), ?_, by omega⟩, ?_⟩
        · have := lk1.other ho (fun k hk => hk.elim)
          rw [List.take_zero, accs_nil, Bool.or_false, HAB.out]
          exact this
        · rw [← hW2, List.take_zero, tys_nil]
          exact heap_last hN.symm
        · exact cell_of ((((lk1.other ho (fun k hk => hk.elim)).tr b cur HCUR.out)).trans HCUR.out) g2)
      have HW2 := Lib.hid hW2; clear hW2
      go_upto_region 6 with fail
      rw [HW2.out]
      have c3 := HR0.out.2
      clear c0 c2 hN
      go_wp2_with fail
      go_loopg [37] x.args.length (fun g v37 wr => ∃ (k : Nat) (mr : Addr → Option Nat), k + g = x.args.length ∧ v37 = .int .i64 (k : Int) ∧ LRnd W mb tb bm ba bi bt w A x N k wr mr)
      case atStart => exact ⟨0, m, by omega, rfl, HR0.out.1⟩
      case round =>
        rename World => wr
        obtain ⟨k, mr, hk, rfl, hrel⟩ := hrel
        have HR := Lib.hid hrel; clear hrel
        have hlen3 := fit_three HFIT.out
        by_cases hk' : k < x.args.length
        · obtain ⟨b', rfl, hel⟩ := HCH.out (by omega)
          have HAK := Lib.hid (hel k hk'); clear hel
          have hcn := size_arg (List.getElem_mem hk')
          have hkn : (k : Int) < (x.args.length : Int) := by omega
          have hk3 : (k : Int) < 3 := by omega
          have s2 : wr.cell? ⟨b, o + 2, none⟩ = some (.slice (some ⟨b', 0, none⟩) x.args.length c) := cell_of ((HR.out.lk.tr b cur HCUR.out).trans HCUR.out) g2
          have si : wr.cell? ⟨bi, 0, none⟩ = some (.func (.func 59) #[] #[ptr bm, ptr ba, ptr bi, ptr bt]) := cell_of HR.out.lk.b3 rfl
          have HC := Lib.hid (ih (by omega) x.args[k] (by omega) (fit_part HFIT.out (List.getElem_mem hk')) wr.drew mr _ b' (k * 3) HR.out.lk.drew HAK.out)
          unfold ptr at HC si
          obtain ⟨tk, htk⟩ : ∃ tk : Nat, x.args[k].ty = tk := ⟨_, rfl⟩
          have HTK := Lib.hid htk
          rw [show LPost W mb tb bm ba bi bt wr.drew (A || x.op == 4 || accs (x.args.take k)) x.args[k] = fun e w' => ∃ m', e = .returned (.int .u8 (tk : Int)) ∧ Lk W mb tb bm ba bi bt w' m' ((A || x.op == 4 || accs (x.args.take k)) || x.args[k].acc) ∧ Only (LkF mb ba) wr.drew w' by rw [← htk]; rfl] at HC
          clear htk
          have HCC : Hid (Calls Tryd.prog 59 #[.pointer (some ⟨b', k * 3, none⟩), .pointer (some ⟨bm, 0, none⟩), .pointer (some ⟨ba, 0, none⟩), .pointer (some ⟨bi, 0, none⟩), .pointer (some ⟨bt, 0, none⟩)] wr.drew (fun e w' => e = .returned (.int .u8 (tk : Int)) ∧ w'.cell? ⟨N, 1 + k, none⟩ = some (.int .u8 (((tys (x.args.take k)).getD k 0 : Nat) : Int)) ∧ w'.frozen? ⟨N, 1 + k, none⟩ = false ∧ ∃ m', LRnd W mb tb bm ba bi bt w A x N (k + 1) (w'.setCell ⟨N, 1 + k, none⟩ (.int .u8 (tk : Int))) m')) := Lib.hid (HC.out.mono (fun e w' he => by
            obtain ⟨m', rfl, lk3, on3⟩ := he
            have hrow : w'.heap[N]? = some (.cells (rowC x.op (tys (x.args.take k))) 95 (0, 0)) := (on3.of_drew.block N (Array.getElem?_eq_some_iff.1 HR.out.row).1 HR.out.apart).trans HR.out.row
            refine ⟨rfl, cell_of hrow (rowC_at (by omega)), by simp [World.frozen?, hrow], m', ?_⟩
            have := HR.out.next hk' (by omega) lk3 on3.of_drew
            rw [HTK.out] at this
            exact this))
          go_upto_region 9 with fail
          go_region_with (go_at_call 59; (refine HCC.out.mono ?_); rintro e w3 ⟨rfl, d3, f3, hx3⟩; have HX3 := Lib.hid hx3; clear hx3)
          all_goals (
            obtain ⟨m4, hn4⟩ := HX3.out
            obtain ⟨w4, hw4⟩ : ∃ w4, w3.setCell ⟨N, 1 + k, none⟩ (.int .u8 (tk : Int)) = w4 := ⟨_, rfl⟩
            rw [hw4] at hn4 ⊢
            have HN := Lib.hid hn4; clear hn4 hw4 HX3 d3 f3
            go_wp2_with fail
            go_roundg (gk - 1)
            case measure => omega
            case rel => exact ⟨k + 1, m4, by omega, by go_num, HN.out⟩)
        · obtain rfl : k = x.args.length := by omega
          have hrow := HR.out.row
          have hlk := HR.out.lk.drew
          have hon := HR.out.only
          rw [List.take_length] at hrow hlk
          have hacc : (A || x.op == 4 || accs x.args) = (A || x.acc) := by rw [acc_eq, Bool.or_assoc]
          rw [hacc] at hlk
          obtain ⟨t0, h0⟩ : ∃ t : Nat, (tys x.args).getD 0 0 = t := ⟨_, rfl⟩
          obtain ⟨t1, h1⟩ : ∃ t : Nat, (tys x.args).getD 1 0 = t := ⟨_, rfl⟩
          obtain ⟨t2, h2⟩ : ∃ t : Nat, (tys x.args).getD 2 0 = t := ⟨_, rfl⟩
          unfold rowC at hrow
          rw [h0, h1, h2] at hrow
          have hty : x.ty = (tab (x.op, t0, t1, t2)).getD 0 := by rw [ty_eq, tyRow, rw3, h0, h1, h2]
          have n0 : wr.cell? ⟨N, 0, none⟩ = some (.int .u8 (x.op : Int)) := cell_of hrow rfl
          have n1 : wr.cell? ⟨N, 1, none⟩ = some (.int .u8 (t0 : Int)) := cell_of hrow rfl
          have n2 : wr.cell? ⟨N, 2, none⟩ = some (.int .u8 (t1 : Int)) := cell_of hrow rfl
          have n3 : wr.cell? ⟨N, 3, none⟩ = some (.int .u8 (t2 : Int)) := cell_of hrow rfl
          have e1 : wr.cell? ⟨bm, 0, none⟩ = some (.map (some mb)) := cell_of HR.out.lk.b1 rfl
          have e4 : wr.cell? ⟨bt, 0, none⟩ = some (.map (some tb)) := cell_of HR.out.lk.b4 rfl
          obtain ⟨tx, htx⟩ : ∃ t : Nat, x.ty = t := ⟨_, rfl⟩
          rw [htx] at hty
          have hlt := hlk.tp.look (keyR wr.drew) (a := (x.op, t0, t1, t2)) trivial Tryd.underlying88 (z := .int .u8 0) (by kernel_rfl) false
          simp only [Bool.false_eq_true, if_false] at hlt
          rw [show (tab (x.op, t0, t1, t2)).elim (.int .u8 0) vB = .int .u8 (tx : Int) by rw [hty]; cases tab (x.op, t0, t1, t2) <;> rfl] at hlt
          unfold kR at hlt
          obtain ⟨ob, hst, hpm, es, clock, hmb⟩ := hlk.mp.store (keyG hlk.tr) (a := ⟨b, o, none⟩) HGA.out Tryd.underlying90 tx
          simp only [vB, kA] at hst
          have HF : Hid (LPost W mb tb bm ba bi bt w A x (.returned (.int .u8 (tx : Int))) (setBlock wr.drew mb ob)) := Lib.hid (by
            have hO : Only (fun j => j = mb) wr.drew (setBlock wr.drew mb ob) := Only.setBlock hmb _ rfl
            refine ⟨upd mr ⟨b, o, none⟩ tx, by rw [htx], ?_, hon.then (hO.of_drew.mono fun _ h => .inl h)⟩
            have st : ∀ {j : Nat} {c : Array Value} {t : TypeId} {fr : Nat × Nat}, wr.heap[j]? = some (.cells c t fr) → (setBlock wr.drew mb ob).heap[j]? = some (.cells c t fr) := fun {j c t fr} hj =>
              (heap_setBlock_other hmb ob (fun e => by subst e; have h5 : wr.heap[j]? = some (.map es clock) := hmb; rw [h5] at hj; cases hj)).trans hj
            refine ⟨hlk.tr.only hO fun j hj c => hlk.moves (.inl hj) c, hpm, hlk.tp.kept (heap_setBlock_other hmb ob (Ne.symm hlk.ne)), st hlk.b1, st hlk.b2, st hlk.b3, st hlk.b4, fun q v hq => ?_, hlk.ne⟩
            by_cases hqp : q = ⟨b, o, none⟩
            · subst hqp
              rw [upd_same] at hq
              exact ⟨x, rfl, HAt.out, (Option.some.inj hq).symm.trans htx.symm, fun hx => by rw [hx, Bool.or_true]⟩
            · rw [upd_other _ _ hqp] at hq
              exact hlk.inv q v hq)
          obtain ⟨w5, hw5⟩ : ∃ w5, setBlock wr.drew mb ob = w5 := ⟨_, rfl⟩
          have hkg : KeyT Tryd.prog w5 kA (GA W) 59 := keyG (by obtain ⟨m', _, hl, _⟩ := HF.out; rw [hw5] at hl; exact hl.tr)
          rw [hw5] at hst hpm HF
          have hl5 := hpm.look hkg (a := ⟨b, o, none⟩) HGA.out Tryd.underlying90 (z := .int .u8 0) (by kernel_rfl) false
          rw [upd_same] at hl5
          simp only [Option.elim, vB, kA, Bool.false_eq_true, if_false] at hl5
          have e5 : w5.cell? ⟨bm, 0, none⟩ = some (.map (some mb)) := by obtain ⟨m', _, hl, _⟩ := HF.out; exact cell_of hl.b1 rfl
          clear hw5 hpm hlk hon hrow hacc h0 h1 h2 hty htx hmb hkg
          have hkn : ¬ ((x.args.length : Int) < (x.args.length : Int)) := by omega
          go_upto_region 11 with fail
          go_region
          go_wp2_with fail
          go_ret
          exact HF.out
end Go.Proofs.YtjmfneljgogohaaDoor.exp

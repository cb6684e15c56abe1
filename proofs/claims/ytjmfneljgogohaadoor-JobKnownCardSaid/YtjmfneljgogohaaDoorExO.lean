/- What over's closure answers: walked. -/
import Derived.Test.YtjmfneljgogohaaDoorExN
import Derived.Deep.LoopGhost
import Derived.Lib.BufferOwn
import Derived.Shelf.Abstract
namespace Go.Proofs.YtjmfneljgogohaaDoor.exp
set_option linter.unusedSimpArgs false
set_option linter.unusedVariables false
open Go.RowKit nam
open Go.ChangeMaps (setBlock heap_setBlock_same heap_setBlock_other)

def IPost (W : World) (md : Option Nat) (mb bm bf bi : Nat) (w : World) (m : Addr → Option Int) (D : Nat) (x : Ex) (d : Nat) (e : Ending) (w' : World) : Prop :=
  ∃ m' D', e = .returned (.bool (good (fF md) x d)) ∧ Ov W md mb bm bf bi w' m' D' ∧ Only (Moves md mb) w w' ∧
    (good (fF md) x d = true → New W (fF md) m m' x.size D' ∧ D' = max D (d - 1 + x.dep)) ∧ (good (fF md) x d = false → md ≠ none → D' = 17)
/-- Looked up: what is told of a part already. -/
theorem into_met {W : World} {md : Option Nat} {mb bm bf bi : Nat} {w : World} {m : Addr → Option Int} {D : Nat} (h : Ov W md mb bm bf bi w m D) {b o d : Nat} {x : Ex} (ha : At W Any b o x) (hd : 1 ≤ d) (hd' : d ≤ 17)
    (hi : Inv W (fF md) m x.size D) {v : Int} (hm : m ⟨b, o, none⟩ = some v) (hv : (d : Int) ≤ v) :
    Calls Tryd.prog 60 #[.pointer (some ⟨b, o, none⟩), .int .i64 (d : Int), ptr bm, ptr bf, ptr bi] w (IPost W md mb bm bf bi w m D x d) := by
  have cm : w.cell? ⟨bm, 0, none⟩ = some (.map (some mb)) := cell_of h.b1 rfl
  obtain ⟨cur, hcur⟩ : ∃ c, W.heap[b]? = some (.cells c 28 (0, 0)) := by obtain ⟨cur, v, _, h2, _⟩ := ha; exact ⟨cur, h2⟩
  have hl := h.mp.look (keyG h.tr) (a := ⟨b, o, none⟩) ⟨cur, hcur⟩ Tryd.underlying96 (z := .int .i64 0) (by kernel_rfl) false
  rw [hm] at hl
  simp only [Option.elim, vI, kA, Bool.false_eq_true, if_false] at hl
  have HP : Hid (IPost W md mb bm bf bi w m D x d (.returned (.bool true)) w) := Lib.hid (by
    obtain ⟨dq, y, h1, h2, h3, h4, h5, h6⟩ := hi _ _ hm
    have hxy := h5.det ha
    subst hxy
    obtain ⟨h7, h8⟩ := h6 (Nat.le_refl _)
    have hg : good (fF md) y d = true := good_falls (falls_fF md) y d dq (by omega) h7
    exact ⟨m, D, by rw [hg], h, Only.refl _ _, fun _ => ⟨New.refl _ _ _ _ _, by omega⟩, fun hf => by rw [hg] at hf; cases hf⟩)
  clear h ha hi hm hcur
  unfold ptr at *
  go_enter Tryd.func60, Tryd.ntmps60
  go_wp2_with fail
  go_ret
  exact HP.out

/-- What is known at each round's head: so many of its parts are told of. -/
structure Rnd (W : World) (md : Option Nat) (mb bm bf bi : Nat) (w : World) (m : Addr → Option Int) (D : Nat) (x : Ex) (b o d : Nat) (k : Nat) (wr : World) (mr : Addr → Option Int) (Dr : Nat) : Prop where
  ov : Ov W md mb bm bf bi wr mr Dr
  only : Only (Moves md mb) w wr
  gs : goods (fF md) (x.args.take k) (d + 1) = true
  deep : Dr = max (max D d) (d + deps (x.args.take k))
  new : ∀ q v, mr q = some v → m q = some v ∨ (q = ⟨b, o, none⟩ ∧ v = (d : Int)) ∨ ∃ (dq : Nat) (y : Ex), v = (dq : Int) ∧ 1 ≤ dq ∧ dq ≤ 17 ∧ q.spot = none ∧ At W Any q.block q.off y ∧ y.size < x.size ∧ good (fF md) y dq = true ∧ dq - 1 + y.dep ≤ Dr
theorem Rnd.inv {W : World} {md : Option Nat} {mb bm bf bi : Nat} {w : World} {m : Addr → Option Int} {D : Nat} {x : Ex} {b o d k : Nat} {wr : World} {mr : Addr → Option Int} {Dr : Nat} (h : Rnd W md mb bm bf bi w m D x b o d k wr mr Dr)
    (hi : Inv W (fF md) m x.size D) (ha : At W Any b o x) (hd : 1 ≤ d) (hd' : d ≤ 17) {y : Ex} (hy : y.size < x.size) : Inv W (fF md) mr y.size Dr := fun q v hq => by
  have hDr := h.deep
  rcases h.new q v hq with h1 | ⟨rfl, rfl⟩ | ⟨dq, z, h1, h2, h3, h4, h5, h6, h7, h8⟩
  · obtain ⟨dq, z, k1, k2, k3, k4, k5, k6⟩ := hi q v h1
    exact ⟨dq, z, k1, k2, k3, k4, k5, fun hs => ⟨(k6 (by omega)).1, by have := (k6 (by omega)).2; omega⟩⟩
  · exact ⟨d, x, rfl, hd, hd', rfl, ha, fun hs => by omega⟩
  · exact ⟨dq, z, h1, h2, h3, h4, h5, fun _ => ⟨h7, h8⟩⟩
/-- A part was told of: the next round's. -/
theorem Rnd.next {W : World} {md : Option Nat} {mb bm bf bi : Nat} {w : World} {m : Addr → Option Int} {D : Nat} {x : Ex} {b o d k : Nat} {wr : World} {mr : Addr → Option Int} {Dr : Nat} (h : Rnd W md mb bm bf bi w m D x b o d k wr mr Dr)
    (hk : k < x.args.length) {w' : World} {m' : Addr → Option Int} {D' : Nat} (ho : Ov W md mb bm bf bi w' m' D') (hy : Only (Moves md mb) wr w') (hg : good (fF md) x.args[k] (d + 1) = true)
    (hn : New W (fF md) mr m' x.args[k].size D') (hD : D' = max Dr (d + 1 - 1 + x.args[k].dep)) : Rnd W md mb bm bf bi w m D x b o d (k + 1) w' m' D' := by
  have hsz : x.args[k].size < x.size := size_arg (List.getElem_mem hk)
  have hDr := h.deep
  refine ⟨ho, h.only.then hy, goods_take hk h.gs hg, ?_, fun q v hq => ?_⟩
  · rw [hD, hDr, deps_take hk]; omega
  · rcases hn q v hq with h1 | ⟨dq, z, h1, h2, h3, h4, h5, h6, h7, h8⟩
    · rcases h.new q v h1 with h2 | h2 | ⟨dq, z, h1, h2, h3, h4, h5, h6, h7, h8⟩
      · exact .inl h2
      · exact .inr (.inl h2)
      · exact .inr (.inr ⟨dq, z, h1, h2, h3, h4, h5, h6, h7, by omega⟩)
    · exact .inr (.inr ⟨dq, z, h1, h2, h3, h4, h5, by omega, h7, h8⟩)
/-- All its parts were told of. -/
theorem Rnd.post {W : World} {md : Option Nat} {mb bm bf bi : Nat} {w : World} {m : Addr → Option Int} {D : Nat} {x : Ex} {b o d k : Nat} {wr : World} {mr : Addr → Option Int} {Dr : Nat} (h : Rnd W md mb bm bf bi w m D x b o d k wr mr Dr)
    (hk : k = x.args.length) (ha : At W Any b o x) (hd : 1 ≤ d) (hd' : d ≤ 17) (hF : fF md x.op x.n x.args.length d = true) : IPost W md mb bm bf bi w m D x d (.returned (.bool true)) wr := by
  subst hk
  have hgs := h.gs
  have hDr := h.deep
  rw [List.take_length] at hgs hDr
  have hg : good (fF md) x d = true := by rw [good_eq, hF, hgs]; rfl
  have hdep := dep_eq x
  refine ⟨mr, Dr, by rw [hg], h.ov, h.only, fun _ => ⟨fun q v hq => ?_, by omega⟩, fun hf => by rw [hg] at hf; cases hf⟩
  rcases h.new q v hq with h1 | ⟨rfl, rfl⟩ | ⟨dq, z, h1, h2, h3, h4, h5, h6, h7, h8⟩
  · exact .inl h1
  · exact .inr ⟨d, x, rfl, hd, hd', rfl, ha, Nat.le_refl _, hg, by omega⟩
  · exact .inr ⟨dq, z, h1, h2, h3, h4, h5, by omega, h7, h8⟩
/-- A part was told of as one that may not be. -/
theorem Rnd.bad {W : World} {md : Option Nat} {mb bm bf bi : Nat} {w : World} {m : Addr → Option Int} {D : Nat} {x : Ex} {b o d k : Nat} {wr : World} {mr : Addr → Option Int} {Dr : Nat} (h : Rnd W md mb bm bf bi w m D x b o d k wr mr Dr)
    (hk : k < x.args.length) {w' : World} {m' : Addr → Option Int} {D' : Nat} (ho : Ov W md mb bm bf bi w' m' D') (hy : Only (Moves md mb) wr w') (hg : good (fF md) x.args[k] (d + 1) = false) (hD : md ≠ none → D' = 17) :
    IPost W md mb bm bf bi w m D x d (.returned (.bool false)) w' := by
  have hb : good (fF md) x d = false := by
    rw [good_eq]
    have : goods (fF md) x.args (d + 1) = false := by
      rw [Bool.eq_false_iff]
      intro h1
      have := goods_mem.1 h1 _ (List.getElem_mem hk)
      rw [hg] at this
      cases this
    rw [this, Bool.and_false]
  exact ⟨m', D', by rw [hb], ho, h.only.then hy, fun hf => (by rw [hb] at hf; cases hf), fun _ => hD⟩

theorem enters_fK (md : Option Nat) : ∀ args w, (callFunc (fK md) args).run Tryd.prog w = .ok (.enter (fK md) args) w := by
  cases md with
  | none => exact enters_of Tryd.func56 (by kernel_rfl) rfl
  | some b => exact enters_of Tryd.func56 (by kernel_rfl) rfl

set_option maxHeartbeats 1600000 in
set_option maxRecDepth 1000000 in
theorem into_any (W : World) (md : Option Nat) (mb bm bf bi : Nat) : ∀ (s : Nat), s ≤ 1000000 → ∀ (x : Ex), x.size ≤ s → ∀ (w : World) (m : Addr → Option Int) (D b o d : Nat), Ov W md mb bm bf bi w m D → At W Any b o x → 1 ≤ d → d ≤ 17 → Inv W (fF md) m x.size D →
    Calls Tryd.prog 60 #[.pointer (some ⟨b, o, none⟩), .int .i64 (d : Int), ptr bm, ptr bf, ptr bi] w (IPost W md mb bm bf bi w m D x d) := by
  intro s
  induction s with
  | zero => intro _ x hx; have := size_pos x; omega
  | succ s ih =>
    intro hs x hx w m D b o d h ha hd hd' hi
    obtain ⟨v, hv⟩ : ∃ v : Int, ((m ⟨b, o, none⟩).elim (.int .i64 0) vI) = .int .i64 v ∧ (v = 0 ∨ m ⟨b, o, none⟩ = some v) := by
      cases hm : m ⟨b, o, none⟩ with
      | none => exact ⟨0, rfl, .inl rfl⟩
      | some v => exact ⟨v, rfl, .inr rfl⟩
    by_cases hdv : (d : Int) ≤ v
    · rcases hv.2 with h0 | h0
      · omega
      · exact into_met h ha hd hd' hi h0 hdv
    have cm : w.cell? ⟨bm, 0, none⟩ = some (.map (some mb)) := cell_of h.b1 rfl
    have hGA : GA W ⟨b, o, none⟩ := by obtain ⟨cur, v, _, h2, _⟩ := ha; exact ⟨cur, h2⟩
    have hl := h.mp.look (keyG h.tr) (a := ⟨b, o, none⟩) hGA Tryd.underlying96 (z := .int .i64 0) (by kernel_rfl) false
    rw [hv.1] at hl
    simp only [kA, Bool.false_eq_true, if_false] at hl
    obtain ⟨ob, hst, hpm, es, clock, hmb⟩ := h.mp.store (keyG h.tr) (a := ⟨b, o, none⟩) hGA Tryd.underlying96 (d : Int)
    simp only [vI, kA] at hst
    have hOn : Only (Moves md mb) w (setBlock w mb ob) := Only.setBlock hmb _ (.inl rfl)
    have hov : Ov W md mb bm bf bi (setBlock w mb ob) (upd m ⟨b, o, none⟩ (d : Int)) D := by
      have st : ∀ {k : Nat} {c : Array Value} {t : TypeId} {fr : Nat × Nat}, w.heap[k]? = some (.cells c t fr) → (setBlock w mb ob).heap[k]? = some (.cells c t fr) := fun {k c t fr} hk =>
        (heap_setBlock_other hmb ob (fun e => by subst e; rw [hmb] at hk; cases hk)).trans hk
      exact ⟨h.tr.only hOn fun k hk c => h.moves hk c, hpm, st h.b1, st h.b2, st h.b3, fun bd hb => (h.st bd hb).elim, h.hD⟩
    generalize setBlock w mb ob = w1 at hst hOn hov
    have cf : w1.cell? ⟨bf, 0, none⟩ = some (.func (.func (fK md)) #[] (fC md)) := cell_of hov.b2 rfl
    have hent := enters_fK md
    have HASK := Lib.hid (ask_at hov ha hd')
    have HOV := Lib.hid hov; have HON := Lib.hid hOn
    have HH := Lib.hid h; have HA := Lib.hid ha; have HI := Lib.hid hi
    clear h ha hi hov hOn hpm hGA hmb hv
    unfold ptr
    cases hF : fF md x.op x.n x.args.length d with
    | false =>
      have HF := Lib.hid hF; clear hF
      go_enter Tryd.func60, Tryd.ntmps60
      go_wp2_with fail
      refine HASK.out.mono ?_
      rintro e w2 ⟨rfl, hov2, hon2⟩
      rw [HF.out]
      have HOV2 := Lib.hid hov2; have HON2 := Lib.hid hon2; clear hov2 hon2
      go_wp2_with fail
      go_ret
      have hb : good (fF md) x d = false := by rw [good_eq, HF.out]; rfl
      exact ⟨_, _, by rw [hb]; rfl, HOV2.out, HON.out.then HON2.out, fun hf => (by rw [hb] at hf; cases hf), fun _ hm => by have := fF_no HF.out hm; have := HOV2.out.hD; omega⟩
    | true =>
      have HF := Lib.hid hF; clear hF
      obtain ⟨cur, va, _, hcur, g0, g1, g2, hlies⟩ := HA.out
      obtain ⟨a, c, rfl, hch⟩ := hlies.form
      have HCH := Lib.hid hch; have HCUR := Lib.hid hcur; clear hch hcur hlies g0 g1
      go_enter Tryd.func60, Tryd.ntmps60
      go_wp2_with fail
      refine HASK.out.mono ?_
      rintro e w2 ⟨rfl, hov2, hon2⟩
      rw [HF.out]
      have HOV2 := Lib.hid hov2; have HON2 := Lib.hid (HON.out.then hon2); clear hov2 hon2
      have k2 : w2.cell? ⟨b, o + 2, none⟩ = some (.slice a x.args.length c) := cell_of ((HOV2.out.tr b cur HCUR.out).trans HCUR.out) g2
      go_wp2_with fail
      go_loopg [27] x.args.length (fun g v27 wr => ∃ (k : Nat) (mr : Addr → Option Int) (Dr : Nat), k + g = x.args.length ∧ v27 = .int .i64 (k : Int) ∧ Rnd W md mb bm bf bi w m D x b o d k wr mr Dr)
      case atStart =>
        refine ⟨0, _, _, by omega, rfl, HOV2.out, HON2.out, by simp [goods_nil], by simp [deps_nil], fun q v hq => ?_⟩
        by_cases hqp : q = ⟨b, o, none⟩
        · subst hqp
          rw [upd_same] at hq
          exact .inr (.inl ⟨rfl, (Option.some.inj hq).symm⟩)
        · rw [upd_other _ _ hqp] at hq
          exact .inl hq
      case round =>
        rename World => wr
        obtain ⟨k, mr, Dr, hk, rfl, hrel⟩ := hrel
        have HR := Lib.hid hrel; clear hrel
        by_cases hk' : k < x.args.length
        · obtain ⟨b', rfl, hel⟩ := HCH.out (by omega)
          have HAK := Lib.hid (hel k hk'); clear hel
          have hcn := size_arg (List.getElem_mem hk')
          have hlen : x.args.length < x.size := by rw [size_eq x]; have := sizes_len x.args; omega
          have hkn : (k : Int) < (x.args.length : Int) := by omega
          have s2 : wr.cell? ⟨b, o + 2, none⟩ = some (.slice (some ⟨b', 0, none⟩) x.args.length c) := cell_of ((HR.out.ov.tr b cur HCUR.out).trans HCUR.out) g2
          have si : wr.cell? ⟨bi, 0, none⟩ = some (.func (.func 60) #[] #[ptr bm, ptr bf, ptr bi]) := cell_of HR.out.ov.b3 rfl
          have hd16 := fF_16 HF.out
          have HC := Lib.hid (ih (by omega) x.args[k] (by omega) wr.drew mr Dr b' (k * 3) (d + 1) HR.out.ov.drew HAK.out (by omega) (by omega) (HR.out.inv HI.out HA.out hd hd' hcn))
          have hw1 : IntKind.i64.wrap ((d : Int) + 1) = ((d + 1 : Nat) : Int) := by
            have : ((d : Int) + 1) = ((d + 1 : Nat) : Int) := by omega
            rw [this]
            exact IntWalk.i64_in _ ⟨by omega, by omega⟩
          unfold ptr at HC si
          obtain ⟨bg, hbg⟩ : ∃ bg, good (fF md) x.args[k] (d + 1) = bg := ⟨_, rfl⟩
          have HBG := Lib.hid hbg
          rw [show IPost W md mb bm bf bi wr.drew mr Dr x.args[k] (d + 1) = fun e w' => ∃ m' D', e = .returned (.bool bg) ∧ Ov W md mb bm bf bi w' m' D' ∧ Only (Moves md mb) wr.drew w' ∧ (bg = true → New W (fF md) mr m' x.args[k].size D' ∧ D' = max Dr (d + 1 - 1 + x.args[k].dep)) ∧ (bg = false → md ≠ none → D' = 17) by rw [← hbg]; rfl] at HC
          clear hbg
          go_upto_region 9 with fail
          go_cut [40] (fun t w3 => t = .bool (!bg) ∧ ∃ m3 D3, Ov W md mb bm bf bi w3 m3 D3 ∧ Only (Moves md mb) wr w3 ∧ (bg = true → New W (fF md) mr m3 x.args[k].size D3 ∧ D3 = max Dr (d + 1 - 1 + x.args[k].dep)) ∧ (bg = false → md ≠ none → D3 = 17))
          case first =>
            go_region_with (go_at_call 60; (refine HC.out.mono ?_); rintro e w3 ⟨m3, D3, rfl, hov3, hon3, ht3, hf3⟩)
            all_goals (have HX := Lib.hid (And.intro hov3 (And.intro hon3 (And.intro ht3 hf3))); clear hov3 hon3 ht3 hf3; go_wp2_with fail; go_meet; exact ⟨rfl, m3, D3, HX.out.1, HX.out.2.1.of_drew, HX.out.2.2.1, HX.out.2.2.2⟩)
          case rest =>
            rename World => w4
            obtain ⟨rfl, m3, D3, hov3, hon3, ht3, hf3⟩ := hcut
            cases bg with
            | true =>
              obtain ⟨hn3, hD3⟩ := ht3 rfl
              have HN : Hid (Rnd W md mb bm bf bi w m D x b o d (k + 1) w4 m3 D3) := Lib.hid (HR.out.next hk' hov3 hon3 HBG.out hn3 hD3)
              clear ht3 hf3 hov3 hon3 hn3 hD3
              go_wp2_with fail
              go_roundg (gk - 1)
              case measure => omega
              case rel => exact ⟨k + 1, m3, D3, by omega, by go_num, HN.out⟩
            | false =>
              have HB : Hid (IPost W md mb bm bf bi w m D x d (.returned (.bool false)) w4) := Lib.hid (HR.out.bad hk' hov3 hon3 HBG.out (hf3 rfl))
              clear ht3 hf3 hov3 hon3
              go_wp2_with fail
              try rw [Exit.noGoto_ret]
              go_ret
              exact HB.out
        · have HP := Lib.hid (HR.out.post (by omega) HA.out hd hd' HF.out)
          have hkn : (x.args.length : Int) ≤ (k : Int) := by omega
          go_wp2_with fail
          try rw [Exit.noGoto_ret]
          go_ret
          exact HP.out
end Go.Proofs.YtjmfneljgogohaaDoor.exp

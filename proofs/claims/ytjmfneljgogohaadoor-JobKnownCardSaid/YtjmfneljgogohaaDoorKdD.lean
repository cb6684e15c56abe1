/- What look's closure answers of a part. -/
import Derived.Test.YtjmfneljgogohaaDoorKdC
import Derived.Test.YtjmfneljgogohaaDoorExO
namespace Go.Proofs.YtjmfneljgogohaaDoor.exp
set_option linter.unusedSimpArgs false
set_option linter.unusedVariables false
open Go.RowKit nam
open Go.ChangeMaps (setBlock heap_setBlock_same heap_setBlock_other)

def LkF (mb ba k : Nat) : Prop := k = mb ∨ k = ba
structure Lk (W : World) (mb tb bm ba bi bt : Nat) (w : World) (m : Addr → Option Nat) (A : Bool) : Prop where
  tr : Tr W w
  mp : PM kA vB (GA W) w mb m
  tp : PM kR vB (fun _ => True) w tb tab
  b1 : w.heap[bm]? = some (.cells #[.map (some mb)] 90 (0, 0))
  b2 : w.heap[ba]? = some (.cells #[.bool A] 4 (0, 0))
  b3 : w.heap[bi]? = some (.cells #[.func (.func 59) #[] #[ptr bm, ptr ba, ptr bi, ptr bt]] 91 (0, 0))
  b4 : w.heap[bt]? = some (.cells #[.map (some tb)] 88 (0, 0))
  inv : ∀ q v, m q = some v → ∃ y, q.spot = none ∧ At W Any q.block q.off y ∧ v = y.ty ∧ (y.acc = true → A = true)
  ne : mb ≠ tb
theorem Lk.drew {W : World} {mb tb bm ba bi bt : Nat} {w : World} {m : Addr → Option Nat} {A : Bool} (h : Lk W mb tb bm ba bi bt w m A) : Lk W mb tb bm ba bi bt w.drew m A :=
  ⟨h.tr, h.mp.kept rfl, h.tp.kept rfl, h.b1, h.b2, h.b3, h.b4, h.inv, h.ne⟩
theorem Lk.of_drew {W : World} {mb tb bm ba bi bt : Nat} {w : World} {m : Addr → Option Nat} {A : Bool} (h : Lk W mb tb bm ba bi bt w.drew m A) : Lk W mb tb bm ba bi bt w m A :=
  ⟨h.tr, h.mp.kept rfl, h.tp.kept rfl, h.b1, h.b2, h.b3, h.b4, h.inv, h.ne⟩
theorem Lk.moves {W : World} {mb tb bm ba bi bt : Nat} {w : World} {m : Addr → Option Nat} {A : Bool} (h : Lk W mb tb bm ba bi bt w m A) {k : Nat} (hk : LkF mb ba k) (c : Array Value) : W.heap[k]? ≠ some (.cells c 28 (0, 0)) := fun e => by
  have e2 := (h.tr k c e).trans e
  rcases hk with rfl | rfl
  · obtain ⟨es, clock, h1, _⟩ := h.mp.is
    rw [h1] at e2
    cases e2
  · have h1 := h.b2
    rw [h1] at e2
    simp at e2
/-- Whether there is an ExAcc is told. -/
theorem Lk.set {W : World} {mb tb bm ba bi bt : Nat} {w : World} {m : Addr → Option Nat} {A B : Bool} (h : Lk W mb tb bm ba bi bt w m A) (hAB : A = true → B = true) :
    Lk W mb tb bm ba bi bt (w.setCell ⟨ba, 0, none⟩ (.bool B)) m B ∧ Only (LkF mb ba) w (w.setCell ⟨ba, 0, none⟩ (.bool B)) := by
  have hon : Only (LkF mb ba) w (w.setCell ⟨ba, 0, none⟩ (.bool B)) := Only.setCell _ _ _ _ (.inr rfl)
  have hba : w.heap[ba]? = some (.cells #[.bool A] 4 (0, 0)) := h.b2
  have st : ∀ {k : Nat} {o : Obj}, w.heap[k]? = some o → o ≠ .cells #[.bool A] 4 (0, 0) → (w.setCell ⟨ba, 0, none⟩ (.bool B)).heap[k]? = w.heap[k]? := fun {k o} hk hne =>
    Below.heap_setCell w _ _ k (fun e => hne (by subst e; exact Option.some.inj (hk.symm.trans hba)))
  obtain ⟨es, clock, hm, _⟩ := h.mp.is
  obtain ⟨es2, clock2, ht, _⟩ := h.tp.is
  refine ⟨⟨h.tr.only hon fun k hk c => h.moves hk c, h.mp.kept (st hm (by simp)), h.tp.kept (st ht (by simp)), (st h.b1 (by simp)).trans h.b1, heap_setCell_same w ba 0 _ 4 _ hba, (st h.b3 (by simp)).trans h.b3, (st h.b4 (by simp)).trans h.b4, fun q v hq => ?_, h.ne⟩, hon⟩
  obtain ⟨y, h1, h2, h3, h4⟩ := h.inv q v hq
  exact ⟨y, h1, h2, h3, fun hy => hAB (h4 hy)⟩
/-- New blocks, or a block that is none of its own, make no difference. -/
theorem Lk.other {W : World} {mb tb bm ba bi bt : Nat} {w w' : World} {m : Addr → Option Nat} {A : Bool} {F : Nat → Prop} (h : Lk W mb tb bm ba bi bt w m A) (ho : Only F w w')
    (hF : ∀ k, F k → ∃ c, w.heap[k]? = some (.cells c 95 (0, 0))) : Lk W mb tb bm ba bi bt w' m A := by
  have st : ∀ {k : Nat} {o : Obj}, w.heap[k]? = some o → (∀ c, o ≠ .cells c 95 (0, 0)) → w'.heap[k]? = w.heap[k]? := fun {k o} hk hne =>
    ho.block k (Array.getElem?_eq_some_iff.1 hk).1 fun hf => by obtain ⟨c, hc⟩ := hF k hf; exact hne c (Option.some.inj (hk.symm.trans hc))
  obtain ⟨es, clock, hm, _⟩ := h.mp.is
  obtain ⟨es2, clock2, ht, _⟩ := h.tp.is
  refine ⟨h.tr.only ho fun k hk c e => ?_, h.mp.kept (st hm (by simp)), h.tp.kept (st ht (by simp)), (st h.b1 (by simp)).trans h.b1, (st h.b2 (by simp)).trans h.b2, (st h.b3 (by simp)).trans h.b3, (st h.b4 (by simp)).trans h.b4, h.inv, h.ne⟩
  obtain ⟨c', hc⟩ := hF k hk
  have := (h.tr k c e).trans e
  rw [hc] at this
  simp at this
def LPost (W : World) (mb tb bm ba bi bt : Nat) (w : World) (A : Bool) (x : Ex) (e : Ending) (w' : World) : Prop :=
  ∃ m', e = .returned (.int .u8 (x.ty : Int)) ∧ Lk W mb tb bm ba bi bt w' m' (A || x.acc) ∧ Only (LkF mb ba) w w'
/-- Looked up: what is told of a part already. -/
theorem of_met {W : World} {mb tb bm ba bi bt : Nat} {w : World} {m : Addr → Option Nat} {A : Bool} (h : Lk W mb tb bm ba bi bt w m A) {b o : Nat} {x : Ex} (ha : At W Any b o x) {v : Nat} (hm : m ⟨b, o, none⟩ = some v) :
    Calls Tryd.prog 59 #[.pointer (some ⟨b, o, none⟩), ptr bm, ptr ba, ptr bi, ptr bt] w (LPost W mb tb bm ba bi bt w A x) := by
  have cm : w.cell? ⟨bm, 0, none⟩ = some (.map (some mb)) := cell_of h.b1 rfl
  obtain ⟨cur, hcur⟩ : ∃ c, W.heap[b]? = some (.cells c 28 (0, 0)) := by obtain ⟨cur, v, _, h2, _⟩ := ha; exact ⟨cur, h2⟩
  have hl := h.mp.look (keyG h.tr) (a := ⟨b, o, none⟩) ⟨cur, hcur⟩ Tryd.underlying90 (z := .int .u8 0) (by kernel_rfl) true
  rw [hm] at hl
  simp only [Option.elim, vB, kA, if_true, Option.isSome_some] at hl
  have HP : Hid (LPost W mb tb bm ba bi bt w A x (.returned (.int .u8 (v : Int))) w) := Lib.hid (by
    obtain ⟨y, h1, h2, h3, h4⟩ := h.inv _ _ hm
    have hxy := h2.det ha
    subst hxy
    refine ⟨m, by rw [h3], ?_, Only.refl _ _⟩
    have : (A || y.acc) = A := by
      cases hy : y.acc with
      | false => simp
      | true => rw [h4 hy]; rfl
    rw [this]
    exact h)
  clear h ha hm hcur
  unfold ptr at *
  go_enter Tryd.func59, Tryd.ntmps59
  go_wp2_with fail
  go_ret
  exact HP.out
end Go.Proofs.YtjmfneljgogohaaDoor.exp

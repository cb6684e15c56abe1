/-
The sum of any parts is that of their bytes: SumOf returns true of every row of texts. Condition: the statement's own: what it reads is of bulk at most 1048576.
-/
import Derived.Test.YtcjheicmicbmjaaRows
import Derived.WalkKit
import Derived.ProofKit
import Derived.OpenShut
import Derived.ShutString
import Derived.JoinedCond
import Derived.ChangeOld
import Derived.Below
import Derived.Deep.Strs
import Derived.Test.YtcjheicmicbmjaaL4
namespace Go.Proofs.Ytcjheicmicbmjaa.sumOf
open Go.ChangeShapes Go.WideShapes Go.ChangeAt Go.RowKit
open Go.ChangeMaps (open_string shut_string)
set_option linter.unusedVariables false

theorem own : ownKnob Try.prog.godebug = none := by kernel_rfl
theorem laidOut : laidOutB Try.prog = true := by kernel_rfl

/-- A row of texts, as what is read of it. -/
def told {H : Type} (l : List ByteArray) : List (DataW H) := l.map fun s => .lit (.string s.data.toList)
theorem bulk_told {H : Type} : ∀ (l : List ByteArray), Rows.uptoBulkAll (told (H := H) l) = (fl l).length + l.length
  | [] => by simp [told, Rows.uptoBulkAll, fl_nil]
  | s :: l => by
    have ih := bulk_told (H := H) l
    unfold told at ih ⊢
    rw [List.map_cons, Rows.uptoBulkAll, ih, Rows.uptoBulk, fl_cons, List.length_append, List.length_cons]
    have e : (bl s).length = s.data.toList.length := rfl
    omega
/-- What the walk is told of the row that came in. -/
def IsTexts (w : World) (a : Option Addr) (len cap : Nat) : Prop :=
  ∃ l : List ByteArray, len = l.length ∧ len ≤ cap ∧ Rd w w.heap.size a l ∧ (fl l).length + l.length ≤ 1048576
theorem walk (a0 : Option Addr) (len0 cap0 : Nat) (w : World) (w0 : IsTexts w a0 len0 cap0) :
    Calls Try.prog 3 #[.slice a0 len0 cap0] w fun e w' => e = .returned (.bool true) ∧ Below w.heap.size w w' := by
  obtain ⟨l, rfl, hc, hr, hb⟩ := w0
  exact law_of l a0 cap0 w hr hc (by omega) (by omega)

theorem rd_texts {w : World} {x : Addr} {len m : Nat} {Sx : Nat → ByteArray} (hl : len ≤ m) (hc : ∀ i, i < m → w.cell? (x.add i) = some (.string (Sx i)) ∧ (Sx i).size ≤ maxLen) :
    Rd w w.heap.size (some x) ((List.range len).map Sx) := fun hne => by
  have hlen : 0 < len := by
    rcases Nat.eq_zero_or_pos len with h0 | h0
    · rw [h0] at hne; exact absurd rfl hne
    · exact h0
  obtain ⟨b, off, spot⟩ := x
  have hc0 := (hc 0 (by omega)).1
  have hspot : spot = none := by simpa [Addr.add] using World.cell?_spot hc0
  subst hspot
  refine ⟨b, off, rfl, ?_, fun j hj => ?_⟩
  · have := World.block_lt_of_cell? w _ hc0
    simpa [Addr.add] using this
  · rw [List.length_map, List.length_range] at hj
    rw [List.getD_eq_getElem?_getD, List.getElem?_map, List.getElem?_range hj]
    have := (hc j (by omega)).1
    rwa [add_plain] at this

theorem contract (H : Type) (enc : TypeId × Value → H) (W : World) (base : Nat) (args : Array Value) (ds gs : List (DataW H)) (before : List MemPlace)
    (hval0 : ∀ (j : Nat) t v, Try.f3.params[j]? = some t → args[j]? = some v → Value.okWide Try.prog W .any base t v)
    (hW : DataW.Whole enc Try.prog Try.f3.params.toList Rows.sumOfSpec.vars false W args.toList ds gs before) (hk : Rows.uptoSmall H (ds ++ gs) = true) :
    Calls Try.prog 3 args W fun e W' => ∃ v, e = .returned v ∧ Rows.sumOfSpec.post enc Try.prog Try.f3 false true false false W args v W' := by
  have hval : ∀ (j : Nat) t v, Try.f3.params[j]? = some t → args[j]? = some v → Value.okWide Try.prog W .any base t v := hval0
  have hW' := hW
  obtain ⟨p, q, hA0, hV, rfl, hfz, hnd⟩ := hW
  have hA : DataW.TrodAll enc Try.prog W 0 (fun _ => true) true Try.f3.params.toList args.toList ds p := hA0
  rw [Try.params3] at hA hval
  obtain ⟨v0, vs0, d0, ds0, p0, q0, hargs, rfl, rfl, h0, r0⟩ := trodAll_cons hA
  obtain ⟨rfl, rfl, rfl⟩ := trodAll_nil r0
  obtain rfl : args = #[v0] := by cases args; simp_all
  obtain ⟨rfl, rfl⟩ := trodVars_none hV
  obtain ⟨a0, len0, cap0, rfl⟩ := okWide_slice Try.underlying22 (hval 0 22 v0 rfl rfl)
  have k0 := h0
  have lt0 : ∀ x ∈ p0, x.block < W.heap.size := by obtain ⟨m, hm⟩ := k0; exact DataW.trod_lt m _ _ _ hm
  have w0 : IsTexts W a0 len0 cap0 := by
    have hk2 : Rows.uptoBulkAll ([d0] ++ []) ≤ 1048576 := of_decide_eq_true hk
    obtain ⟨fuel, hf⟩ := h0
    rcases Go.Deep.open_strs Try.underlying22 Try.underlying9 (by kernel_rfl) hf with ⟨hcs, _⟩ | ⟨x, l, c, m, Sx, hcs, _, hl, hm, hmm, hx, hcell⟩
    · simp [Value.cells] at hcs
      obtain ⟨rfl, rfl, rfl⟩ := hcs
      exact ⟨[], rfl, Nat.le_refl _, fun h => absurd rfl h, by simp [fl_nil]⟩
    · simp [Value.cells] at hcs
      obtain ⟨rfl, rfl, rfl⟩ := hcs
      have hlm : len0 ≤ m := by rw [hmm]; split <;> omega
      refine ⟨(List.range len0).map Sx, by simp, hl, rd_texts hlm hcell, ?_⟩
      rw [Prod.mk.injEq] at hx
      obtain ⟨hd, _⟩ := hx
      rw [hd] at hk2
      have e : ((List.range len0).map fun i => (DataW.lit (H := H) (.string (Sx i).data.toList))) = told ((List.range len0).map Sx) := by
        unfold told; rw [List.map_map]; rfl
      simp only [List.append_nil, Rows.uptoBulkAll, Rows.uptoBulk] at hk2
      rw [e, bulk_told] at hk2
      omega
  clear hA0 hval0
  simp only [List.append_nil] at hW'
  refine (walk a0 len0 cap0 W w0).mono fun e W' ⟨he, bel⟩ => ?_
  subst he
  exact ⟨_, rfl, _, _, _, [], _, [], hW', trodAll_mk1 (shut_bool Try.underlying4 _), (trodAll_cons_mk (Below.trod laidOut (by kernel_rfl) (of_decide_eq_true (by kernel_rfl)) k0 bel lt0) trodAll_mk0), rfl, bel.frame _, fun h => by cases h⟩

set_option maxRecDepth 100000 in
theorem lifted (os : Os) (started : os.Started) (H : Type) (enc : TypeId × Value → H) (F : Stop.Interp) :
    ReturnsInHanded {} Try.checked os 3 .any ((Rows.OpenSpec.upto Rows.sumOfSpec).pre6 enc Try.prog Try.f3 Rows.sumOfUptoRow.domain false) (((Rows.OpenSpec.upto Rows.sumOfSpec).at F).post enc Try.prog Try.f3 false true false false) := by
  refine returnsInHanded_of_cond (C := Try.checked) (s := Rows.OpenSpec.upto Rows.sumOfSpec) (k := Rows.uptoSmall) rfl own started (by kernel_rfl) Try.func3
    (OpenSpec.witness (enc := enc) (C := Try.checked) (s := Rows.OpenSpec.upto Rows.sumOfSpec) (k := Rows.uptoSmall) rfl false ⟨#[], #[.slice none 0 0], []⟩ 8 (by kernel_rfl) (by kernel_rfl) (by kernel_rfl)
      (x := ([.nil], [], [])) (by kernel_rfl) rfl (by kernel_rfl)) ?_
  intro W base args ds gs before hval hW _ hk _
  exact contract H enc W base args ds gs before hval hW hk

theorem proved : Rows.SumOfUptoSaid :=
  OpenClaim.holds_of_cond 3 Try.f3 rfl rfl rfl rfl rfl rfl rfl ⟨rfl, rfl, rfl, rfl, rfl⟩ rfl rfl rfl rfl rfl (by kernel_rfl) Try.func3 (by kernel_rfl)
    (of_decide_eq_true (by kernel_rfl)) (by unfold Func.isWrapper; first | (rw [if_pos (by decide +kernel)]; kernel_rfl) | (rw [if_neg (by decide +kernel)]; exact ⟨rfl, rfl⟩))
    (fun os started H enc _ F => lifted os started H enc F)
end Go.Proofs.Ytcjheicmicbmjaa.sumOf
namespace Go.Proofs.Ytcjheicmicbmjaa
theorem sumOfUpto_holds : Rows.SumOfUptoSaid := sumOf.proved
end Go.Proofs.Ytcjheicmicbmjaa

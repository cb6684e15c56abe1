/-
What is handed in, or answered, is nobody else's: a row that is changed behind it changes no table: TableOwn returns true of every key, every row of numbers and every number. No condition.
-/
import Derived.Test.YtghpbhcnblninaaRows
import Derived.WalkKit
import Derived.ProofKit
import Derived.OpenShut
import Derived.ShutString
import Derived.ChangeOld
import Derived.Below
import Derived.Test.YtghpbhcnblninaaTbI
import Derived.Test.YtghpbhcnblninaaToO
namespace Go.Proofs.Ytghpbhcnblninaa.tableOwn
open Go.ChangeShapes Go.WideShapes Go.ChangeAt Go.RowKit
open Go.ChangeMaps (open_string shut_string)
set_option linter.unusedVariables false
set_option linter.unusedSimpArgs false

theorem own : ownKnob Try.prog.godebug = none := by kernel_rfl
theorem laidOut : laidOutB Try.prog = true := by kernel_rfl

theorem walk (a0 : Int) (a1 : Option Addr) (cap1 : Nat) (l : List Int) (a2 : Int) (w : World) (w0 : (Lit.int .i64 a0).wf = true) (hl : l.length ≤ cap1) (hc : cap1 ≤ maxLen) (hr : tbl.Row w w.heap.size a1 cap1 l) (hf : ∀ n ∈ l, grp.fits n) (hz : 0 < l.length → ∀ ad, a1 = some ad → w.frozen? ad = false) :
    Calls Try.prog 8 #[.int .i64 a0, .slice a1 l.length cap1, .int .i64 a2] w fun e w' => e = .returned (.bool true) ∧ Below w.heap.size w w' :=
  tbl.own.law_own a0 l a1 cap1 a2 w (grp.fits_wf w0) hf hr hl hc hz

set_option maxRecDepth 100000 in
theorem lifted (os : Os) (started : os.Started) (H : Type) (enc : TypeId × Value → H) :
    ReturnsInHanded {} Try.checked os 8 .any (Rows.tableOwnSpec.pre6 enc Try.prog Try.f8 Rows.tableOwnRow.domain false) (Rows.tableOwnSpec.post enc Try.prog Try.f8 false true false false) := by
  refine returnsInHanded_of_change (C := Try.checked) own started (by kernel_rfl) Try.func8
    (ChangeSpec.witness6 (enc := enc) (C := Try.checked) false ⟨#[], #[.int .i64 0, .slice none 0 0, .int .i64 0], []⟩ 8 (by kernel_rfl) (by kernel_rfl) (by kernel_rfl) (by kernel_rfl)) ?_
  intro W base args ds gs before hval0 hW hcnd _
  have hval : ∀ (j : Nat) t v, Try.f8.params[j]? = some t → args[j]? = some v → Value.okWide Try.prog W .any base t v := hval0
  have hW' := hW
  obtain ⟨p, q, hA0, hV, rfl, hfz, hnd⟩ := hW
  have hA : DataW.TrodAll enc Try.prog W 0 (fun _ => true) true Try.f8.params.toList args.toList ds p := hA0
  rw [Try.params8] at hA hval
  obtain ⟨v0, vs0, d0, ds0, p0, q0, hargs, rfl, rfl, h0, r0⟩ := trodAll_cons hA
  obtain ⟨v1, vs1, d1, ds1, p1, q1, rfl, rfl, rfl, h1, r1⟩ := trodAll_cons r0
  obtain ⟨v2, vs2, d2, ds2, p2, q2, rfl, rfl, rfl, h2, r2⟩ := trodAll_cons r1
  obtain ⟨rfl, rfl, rfl⟩ := trodAll_nil r2
  obtain rfl : args = #[v0, v1, v2] := by cases args; simp_all
  obtain ⟨rfl, rfl⟩ := trodVars_none hV
  obtain ⟨a0, rfl, rfl, rfl, wf0⟩ := open_int Try.underlying2 (hval 0 2 v0 rfl rfl) h0
  obtain ⟨a1, len1, cap1, rfl⟩ := okWide_slice Try.underlying30 (hval 1 30 v1 rfl rfl)
  have k1 := h1
  have lt1 : ∀ x ∈ p1, x.block < W.heap.size := by obtain ⟨m, hm⟩ := k1; exact DataW.trod_lt m _ _ _ hm
  obtain ⟨a2, rfl, rfl, rfl, wf2⟩ := open_int Try.underlying2 (hval 2 2 v2 rfl rfl) h2
  obtain ⟨l, rfl, hl, hc, hr, hf, hz⟩ : ∃ l : List Int, len1 = l.length ∧ l.length ≤ cap1 ∧ cap1 ≤ maxLen ∧ tbl.Row W W.heap.size a1 cap1 l ∧ (∀ n ∈ l, grp.fits n) ∧ (0 < l.length → ∀ ad, a1 = some ad → W.frozen? ad = false) := by
    obtain ⟨fuel, hf⟩ := h1
    obtain ⟨a, cap, ns, e, x1, x2, x3, x4⟩ := tbl.nums_in hf
    cases e
    refine ⟨ns, rfl, x1, x2, x3, x4, fun hlen ad e => ?_⟩
    subst e
    have x5 := x3
    obtain ⟨g, o, e, x6, x7⟩ := x5.2 hlen
    obtain rfl := Option.some.inj e
    rcases Go.Deep.open_slice1 Try.underlying30 (by kernel_rfl) hf with ⟨hcs, _⟩ | ⟨y, l', c', m, n, V, D, Pl, hcs, _, y1, y2, y3, y4, y5⟩
    · simp [Value.cells] at hcs
    · simp [Value.cells] at hcs
      obtain ⟨rfl, rfl, rfl⟩ := hcs
      have hm : 0 < m := by rw [y3]; split <;> omega
      have y6 : p1 = MemPlace.row ⟨g, o, none⟩ m ++ List.flatMap Pl (List.range m) := congrArg Prod.snd y4
      refine hfz g o ?_
      rw [y6]
      simp only [List.nil_append, List.append_nil]
      exact List.mem_append_left _ (MemPlace.mem_row.2 ⟨0, hm, rfl⟩)
  clear hA0 hval0
  refine (walk a0 a1 cap1 l a2 W wf0 hl hc hr hf hz).mono fun e W' ⟨he, bel⟩ => ?_
  subst he
  exact ⟨_, rfl, _, _, _, [], _, [], hW', trodAll_mk1 (shut_bool Try.underlying4 _), (trodAll_cons_mk (shut_int Try.underlying2 wf0) (trodAll_cons_mk (Below.trod laidOut (by kernel_rfl) (of_decide_eq_true (by kernel_rfl)) k1 bel lt1) (trodAll_cons_mk (shut_int Try.underlying2 wf2) trodAll_mk0))), rfl, bel.frame _, fun h => by cases h⟩

theorem over : Rows.tableOwnRow.holds Try.pinned (OpenSpec.ofChange Rows.tableOwnSpec) :=
  OpenClaim.holds_of_wide 8 Try.f8 rfl rfl rfl rfl rfl rfl rfl ⟨rfl, rfl, rfl, rfl, rfl⟩ rfl rfl rfl rfl rfl (by kernel_rfl) Try.func8 (by kernel_rfl)
    (of_decide_eq_true (by kernel_rfl)) (by unfold Func.isWrapper; first | (rw [if_pos (by decide +kernel)]; kernel_rfl) | (rw [if_neg (by decide +kernel)]; exact ⟨rfl, rfl⟩))
    (fun os started H enc _ => lifted os started H enc)

theorem proved : Rows.TableOwnSaid := over
end Go.Proofs.Ytghpbhcnblninaa.tableOwn
namespace Go.Proofs.Ytghpbhcnblninaa
theorem tableOwn_holds : Rows.TableOwnSaid := tableOwn.proved
end Go.Proofs.Ytghpbhcnblninaa

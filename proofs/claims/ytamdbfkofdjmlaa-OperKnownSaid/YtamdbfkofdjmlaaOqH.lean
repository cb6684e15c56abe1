/- What a window does of a record: what it keeps, and what it hands on. -/
import Derived.Test.YtamdbfkofdjmlaaOqG
import Derived.Test.YtamdbfkofdjmlaaOpW
import Derived.Deep.RegionHeld3
namespace Go.Proofs.Ytamdbfkofdjmlaa.opr
set_option linter.unusedSimpArgs false
set_option linter.unusedVariables false
open Go.RowKit
attribute [local go_sem ↓] Go.wp_at_zero Go.wp_at_succ
open Go.Proofs.Ytamdbfkofdjmlaa.tbl (Only lt_of_get IsTab Two putO delL TabO Rows2 mkC OwnI GetOwn Sl Box2)
open Go.Proofs.Ytamdbfkofdjmlaa.grp (below_on' below_made fits intV)
/-- A sum, by 2^64. -/
def sumI (l : List Int) : Int := l.foldl (fun s x => Go.RowKit.wrap64 (s + x)) 0
theorem sumI_snoc (l : List Int) (x : Int) : sumI (l ++ [x]) = Go.RowKit.wrap64 (sumI l + x) := by simp [sumI]
theorem sum_any {w : World} {a : Option Addr} {c n : Nat} {l : List Int} (h : Sl w a c l) (hn : l.length = n) (hl : n ≤ 1000) :
    Calls Try.prog 63 #[.slice a n c] w fun e w' => e = .returned (.int .i64 (sumI l)) ∧ w = w' := by
  have HS := Lib.hid h
  have HN := Lib.hid hn
  have hn1 : (n : Int) ≤ 1000 := by omega
  clear h hn hl
  go_enter Try.func63, Try.ntmps63
  go_wp2
  go_loopg [3, 8] n (fun g v3 v8 wr => ∃ k, v8 = .int .i64 (k : Nat) ∧ v3 = .int .i64 (sumI (l.take k)) ∧ k + g = n ∧ w = wr)
  case atStart => exact ⟨0, rfl, rfl, by omega, rfl⟩
  case round =>
    obtain ⟨k, rfl, rfl, hk, rfl⟩ := hrel
    by_cases hlt : k < n
    · have hlt' : (k : Int) < (n : Int) := by omega
      have hk0 : (0 : Int) ≤ (k : Int) := by omega
      have hkl : k < l.length := by rw [HN.out]; exact hlt
      obtain ⟨g, o, rfl, hg, hc⟩ := HS.out.2 (by omega)
      have hck := hc k hkl
      obtain ⟨x, hx⟩ : ∃ x, l[k] = x := ⟨_, rfl⟩
      rw [hx] at hck
      have HSS : Hid (sumI (l.take (k + 1)) = Go.RowKit.wrap64 (sumI (l.take k) + x)) := Lib.hid (by
        rw [List.take_add_one, List.getElem?_eq_getElem hkl, hx]
        exact sumI_snoc _ _)
      obtain ⟨s, hs⟩ : ∃ s, sumI (l.take k) = s := ⟨_, rfl⟩
      rw [hs] at HSS ⊢
      have HKK := Lib.hid (And.intro hk hlt)
      clear hc hkl hx hs hk hlt
      go_wp2
      go_roundg (n - (k + 1))
      case measure => have := HKK.out; omega
      case rel => exact ⟨k + 1, rfl, by rw [HSS.out], by have := HKK.out; omega, rfl⟩
    · have hlt' : ¬ ((k : Int) < (n : Int)) := by omega
      have HE : Hid (sumI (l.take k) = sumI l) := Lib.hid (by rw [List.take_of_length_le (by rw [HN.out]; omega)])
      obtain ⟨s, hs⟩ : ∃ s, sumI (l.take k) = s := ⟨_, rfl⟩
      rw [hs] at HE ⊢
      clear hs hk hlt
      go_wp2
      go_ret
      exact ⟨by rw [← HE.out]; rfl, rfl⟩
structure GatI (t b : Nat) (m : Nat) (bd : Array Value) (L : tbl.Rows) (w : World) : Prop where
  tab : IsTab w t b L
  ex : ∃ b1 b2, bd = #[.pointer (some ⟨b1, 0, none⟩), .pointer (some ⟨b2, 0, none⟩)] ∧ One w b1 33 (.pointer (some ⟨t, 0, none⟩)) ∧ One w b2 3 (.int .i64 (m : Int))
theorem GatI.stay {t b m : Nat} {bd : Array Value} {L : tbl.Rows} {w w' : World} (h : GatI t b m bd L w) (hs : Stay w w') : GatI t b m bd L w' := by
  obtain ⟨b1, b2, e, h1, h2⟩ := h.ex
  exact ⟨IsTab.stay h.tab hs, b1, b2, e, hs _ _ h1 (fun cur fr e => by cases e), hs _ _ h2 (fun cur fr e => by cases e)⟩
/-- What stands by while a window does its work: the record's box, the captured boxes, the cell's box. -/
structure Kp (w : World) (Nr N5 b1 b2 t m : Nat) (r : Rc) (c : tbl.Cv) : Prop where
  rb : w.heap[Nr]? = some (.cells #[.int .i64 r.1, .int .i64 r.2.1, .int .i64 r.2.2] 32 (0, 0))
  o1 : One w b1 33 (.pointer (some ⟨t, 0, none⟩))
  o2 : One w b2 3 (.int .i64 (m : Int))
  bx : Box2 w N5 c
theorem Kp.below {w w' : World} {Nr N5 b1 b2 t m : Nat} {r : Rc} {c : tbl.Cv} (h : Kp w Nr N5 b1 b2 t m r c) (hb : Below w.heap.size w w') : Kp w' Nr N5 b1 b2 t m r c :=
  ⟨(hb.block _ (lt_of_get h.rb)).trans h.rb, h.o1.below hb, h.o2.below hb, h.bx.below hb⟩
theorem Kp.two {w w' : World} {Nr N5 b1 b2 t m b : Nat} {r : Rc} {c : tbl.Cv} {L : tbl.Rows} (h : Kp w Nr N5 b1 b2 t m r c) (ht : IsTab w t b L) (ho : Only (Two t b) w w') : Kp w' Nr N5 b1 b2 t m r c :=
  ⟨only_two ht ho h.rb (fun cur fr e => by cases e) (fun es ck e => by cases e), only_two ht ho h.o1 (fun cur fr e => by cases e) (fun es ck e => by cases e), only_two ht ho h.o2 (fun cur fr e => by cases e) (fun es ck e => by cases e), only_two ht ho h.bx (fun cur fr e => by cases e) (fun es ck e => by cases e)⟩
theorem Kp.set {w : World} {Nr N5 b1 b2 t m : Nat} {r : Rc} {c : tbl.Cv} (h : Kp w Nr N5 b1 b2 t m r c) (a : Option Addr) (n q : Nat) : Kp (w.setCell ⟨N5, 1, none⟩ (.slice a n q)) Nr N5 b1 b2 t m r (c.1, a, n, q) := by
  have k : ∀ (j : Nat) (ob : Obj), w.heap[j]? = some ob → (∀ (cur : Array Value), ob ≠ Obj.cells cur 69 (0, 0)) → (w.setCell ⟨N5, 1, none⟩ (.slice a n q)).heap[j]? = some ob := fun j ob hj hno => by
    rw [Below.heap_setCell _ _ _ _ (fun e => by
      have h1 := h.bx
      unfold Box2 at h1
      have e' : j = N5 := e
      rw [← e', hj] at h1
      exact hno _ (Option.some.inj h1))]
    exact hj
  refine ⟨k _ _ h.rb (fun cur e => by cases e), k _ _ h.o1 (fun cur e => by cases e), k _ _ h.o2 (fun cur e => by cases e), ?_⟩
  have h1 := h.bx
  unfold Box2 at h1 ⊢
  rw [heap_setCell_same w N5 1 _ _ _ h1]; rfl
theorem IsTab.box {w : World} {t b N5 : Nat} {L : tbl.Rows} {c : tbl.Cv} (h : IsTab w t b L) (hb : Box2 w N5 c) (v : Value) : IsTab (w.setCell ⟨N5, 1, none⟩ v) t b L := by
  have k : ∀ (j : Nat) (ob : Obj), w.heap[j]? = some ob → (∀ (cur : Array Value), ob ≠ Obj.cells cur 69 (0, 0)) → (w.setCell ⟨N5, 1, none⟩ v).heap[j]? = w.heap[j]? := fun j ob hj hno =>
    Below.heap_setCell _ _ _ _ (fun e => by
      have h1 := hb
      unfold Box2 at h1
      have e' : j = N5 := e
      rw [← e', hj] at h1
      exact hno _ (Option.some.inj h1))
  obtain ⟨es, ck, hm⟩ := h.map.isMap
  have ht := h.obj
  unfold TabO at ht
  refine h.keep (k _ _ ht (fun cur e => by cases e)) (k _ _ hm (fun cur e => by cases e)) (fun g cur fr hg => ?_)
  rw [k _ _ hg (fun cur e => by cases e)]; exact hg
theorem put_row {w : World} {t b : Nat} {L L' : tbl.Rows} (h : IsTab w t b L) {k x : Int} (hk : fits k) (hx : fits x) {ns : List Int} (hns : ∀ y ∈ ns, fits y) {a : Option Addr} {cap n B : Nat} (hn : ns.length = n) (hl : n ≤ 16) (ho : OwnI w B (.slice a n cap) ns) (hB : t < B) (hp : putO L k (x, ns) = (0, L')) :
    Calls Try.prog 28 #[.pointer (some ⟨t, 0, none⟩), .int .i64 k, .agg #[.int .i64 x, .slice a n cap]] w fun e w' => e = .returned (.int .i64 0) ∧ IsTab w' t b L' ∧ Only (Two t b) w w' := by
  subst hn
  obtain ⟨-, a', cap', e, hna⟩ := tbl.NR.own ho
  injection e with e1 e2 e3
  subst e1 e3
  refine (tbl.put_any h hk hx hns hna.sl (fun h0 ad e => ?_) (by omega)).mono ?_
  · rcases ho.2 with ⟨e1, e2⟩ | ⟨g, cap, cur, e1, e2, e3, _⟩
    · injection e1 with e1; rw [e1] at e; cases e
    · injection e1 with e1
      rw [e1] at e
      injection e with e
      rw [← e]
      show g ≠ t
      omega
  · rintro e w' ⟨h1, h2, h3⟩
    rw [hp] at h1 h2
    exact ⟨h1, h2, h3⟩
/-- A number more, in a row of one's own that is fresher than this world. -/
abbrev Own64 (w : World) (v : Value) (l : List Int) : Prop := OwnI w w.heap.size v l
theorem Own64.nil (w : World) : OwnI w w.heap.size (.slice none 0 0) [] := World.ownsRow_nil _ _ _ _
theorem app_one {w : World} {B : Nat} {v : Value} {l : List Int} (h : OwnI w B v l) (x : Int) (hl : l.length ≤ 1000 := by simp) (hB : B ≤ w.heap.size := by simp) :
    ∃ v' w', (∀ ty, (Builtin.append_ #[67, 67] ty #[v, .slice (some ⟨w.heap.size, 0, none⟩) 1 1]).run Try.prog (w.alloc (.cells #[.int .i64 x] 2)) = .ok v' w') ∧ OwnI w' B v' (l ++ [x]) ∧ Below B w w' := by
  have hb := below_made w (.cells #[.int .i64 x] 2)
  have hs : Sl (w.alloc (.cells #[.int .i64 x] 2)) (some ⟨w.heap.size, 0, none⟩) 1 [x] := ⟨(fun e => by cases e), fun _ => ⟨w.heap.size, 0, rfl, by simp, fun i hi => by
    rw [cell_of_row _ _ _ _ _ _ (Go.heap_alloc_new w _)]
    have : i = 0 := by simpa using hi
    subst this
    rfl⟩⟩
  have ho : OwnI (w.alloc (.cells #[.int .i64 x] 2)) B v l := h.keep (fun g _ hg => hb.block g hg)
  obtain ⟨v', w', r1, o1, g1⟩ := tbl.app_run ho hs (by simp; omega) (Nat.le_trans hB hb.size) 0
  refine ⟨v', w', fun _ => r1, ?_, (hb.mono hB).grown g1 (Nat.le_trans hB hb.size) (fun j hj => (ho.lt j hj).1)⟩
  unfold OwnI
  rw [List.length_append]
  exact o1
theorem only_new {F : Nat → Prop} {w w' : World} {N5 : Nat} (h : Only F w w') {W : World} (hb : Below w.heap.size w W) (hN : w.heap.size ≤ N5) (v : Value) : Only F w (w'.setCell ⟨N5, 1, none⟩ v) :=
  h.trans (Only.setCell w' N5 1 v) (fun k hk hlt => by omega)
set_option maxHeartbeats 12800000 in
set_option maxRecDepth 1000000 in
/-- A key of which nothing is kept, and more than one number is wanted: it is kept, and none comes of it. -/
theorem gat_new {w : World} {t b m : Nat} {bd : Array Value} {L L1 L2 : tbl.Rows} (h : GatI t b m bd L w) (hm : 1 < m) (hm2 : m ≤ 1000) (r : Rc) (hk : fits r.2.1) (hv : fits r.2.2) (hlk : tbl.look L r.2.1 = none) (hp1 : putO L r.2.1 (0, []) = (0, L1)) (hp2 : putO L1 r.2.1 (0, [r.2.2]) = (0, L2)) :
    Calls Try.prog 61 (#[rcA r] ++ bd) w fun e w' => ∃ v', e = .returned v' ∧ Own w' w.heap.size v' [] ∧ GatI t b m bd L2 w' ∧ Only (Two t b) w w' := by
  obtain ⟨b1, b2, rfl, h1, h2⟩ := id h.ex
  have hb0 := below_made w (.cells #[.int .i64 r.1, .int .i64 r.2.1, .int .i64 r.2.2] 32)
  obtain ⟨q0, q1, q2⟩ := rec_box w r
  have z1 := (h1.below hb0).cell
  have hg := tbl.get_own (h.tab.below hb0) hk
  unfold GetOwn at hg
  rw [hlk] at hg
  have HG := Lib.hid hg
  have HB0 := Lib.hid hb0
  have HT0 := Lib.hid h.tab
  have HK := Lib.hid (And.intro hk hv)
  have HP := Lib.hid (And.intro hp1 hp2)
  have H12 := Lib.hid (And.intro h1 h2)
  have hm' : (1 : Int) < (m : Int) := by omega
  have hm2' : (m : Int) ≤ 1000 := by omega
  obtain ⟨r1, r2, r3⟩ := r
  unfold rcA
  dsimp only at HG HB0 q0 q1 q2 z1 HK HP ⊢
  clear h h1 h2 hb0 hk hv hlk hp1 hp2 hg hm hm2
  go_enter Try.func61, Try.ntmps61
  go_wp2_with fail
  (with_reducible refine HG.out.mono ?_)
  rintro e w1 ⟨rfl, hb1⟩
  have hbm := below_made w1 (.cells #[.int .i64 0, .slice none 0 0] 69)
  have hbw := below_on' hb1 hbm
  have hbw0 := below_on' HB0.out hbw
  have hkp : Kp (w1.alloc (.cells #[.int .i64 0, .slice none 0 0] 69)) w.heap.size w1.heap.size b1 b2 t m (r1, r2, r3) (0, none, 0, 0) :=
    ⟨(hbw.block w.heap.size (by simp)).trans (Go.heap_alloc_new w _), H12.out.1.below hbw0, H12.out.2.below hbw0, Box2.new w1 (0, none, 0, 0)⟩
  have HKP := Lib.hid hkp
  have HSZ : Hid (w.heap.size ≤ w1.heap.size) := Lib.hid (Nat.le_trans HB0.out.size hb1.size)
  have HBW0 := Lib.hid hbw0
  have HT1 := Lib.hid (HT0.out.below hbw0)
  have HPUT := Lib.hid (put_acc HT1.out HK.out.1 (x := 0) ⟨by decide, by decide⟩ HP.out.1)
  have p0 : (w1.alloc (.cells #[.int .i64 0, .slice none 0 0] 69)).cell? ⟨w.heap.size, 1, none⟩ = some (.int .i64 r2) := by rw [cell_of_row _ _ _ _ _ _ hkp.rb]; rfl
  have p1 := hkp.o1.cell
  obtain ⟨p2, p3, -, -⟩ := hkp.bx.facts
  dsimp only at p2 p3
  unfold mkC
  dsimp only
  clear hb1 hbm hbw hbw0 hkp HG
  go_wp2_with fail
  (with_reducible refine HPUT.out.mono ?_)
  rintro e w2 ⟨rfl, ht2, ho2⟩
  have HKP2 := Lib.hid (HKP.out.two HT1.out ho2)
  have HT2 := Lib.hid ht2
  have HON2 := Lib.hid ((Only.of_below HBW0.out).then ho2)
  obtain ⟨v3, w3, hr3, ho3, hb3⟩ := app_one (Own64.nil w2) r3
  rw [List.nil_append] at ho3
  obtain ⟨-, a3, c3, rfl, hna3⟩ := tbl.NR.own ho3
  have HKP3 := Lib.hid (HKP2.out.below hb3)
  have HT3 := Lib.hid (HT2.out.below hb3)
  have HKP4 := Lib.hid (HKP3.out.set a3 1 c3)
  have HT4 := Lib.hid (IsTab.box HT3.out HKP3.out.bx (.slice a3 1 c3))
  have hN5 : w1.heap.size < w2.heap.size := lt_of_get HKP2.out.bx
  have HO4 : Hid (OwnI (w3.setCell ⟨w1.heap.size, 1, none⟩ (.slice a3 1 c3)) w2.heap.size (.slice a3 1 c3) [r3]) := Lib.hid (OwnI.keep ho3 (fun g hg _ => Below.heap_setCell _ _ _ _ (fun e => by have e' : g = w1.heap.size := e; omega)))
  have HON4 : Hid (Only (Two t b) w (w3.setCell ⟨w1.heap.size, 1, none⟩ (.slice a3 1 c3))) := Lib.hid (only_new (HON2.out.on hb3) HB0.out HSZ.out _)
  have HPUT4 := Lib.hid (put_row HT4.out HK.out.1 (x := 0) ⟨by decide, by decide⟩ (ns := [r3]) (by intro y hy; rw [List.mem_singleton.1 hy]; exact HK.out.2) (n := 1) rfl (by decide) HO4.out HT2.out.lt.1 HP.out.2)
  have HR3 := Lib.hid hr3
  have y0 : w2.cell? ⟨w.heap.size, 2, none⟩ = some (.int .i64 r3) := by rw [cell_of_row _ _ _ _ _ _ HKP2.out.rb]; rfl
  obtain ⟨y1, y2, -, -⟩ := HKP2.out.bx.facts
  obtain ⟨y3, y4, y5, y6⟩ := HKP3.out.bx.facts
  obtain ⟨y7, y8, -, -⟩ := HKP4.out.bx.facts
  have y9 := HKP4.out.o1.cell
  have y10 := HKP4.out.o2.cell
  have y11 : (w3.setCell ⟨w1.heap.size, 1, none⟩ (.slice a3 1 c3)).cell? ⟨w.heap.size, 1, none⟩ = some (.int .i64 r2) := by rw [cell_of_row _ _ _ _ _ _ HKP4.out.rb]; rfl
  dsimp only at y1 y2 y3 y4 y7 y8
  clear ht2 ho2 hr3 ho3 hb3 hna3 hN5 p0 p1 p2 p3
  go_wp2_with (at_builtin; refine wpList_appR rfl (.tmp 25) (.tmp 28) 67 rfl rfl rfl (HR3.out _) ?_)
  (with_reducible refine HPUT4.out.mono ?_)
  rintro e w5 ⟨rfl, ht5, ho5⟩
  have HF := Lib.hid (show ∃ v', Ending.returned (.slice none 0 0) = .returned v' ∧ Own w5 w.heap.size v' [] ∧ GatI t b m #[.pointer (some ⟨b1, 0, none⟩), .pointer (some ⟨b2, 0, none⟩)] L2 w5 ∧ Only (Two t b) w w5 from
    ⟨_, rfl, Own.nil _ _, ⟨ht5, b1, b2, rfl, (HKP4.out.two HT4.out ho5).o1, (HKP4.out.two HT4.out ho5).o2⟩, HON4.out.then ho5⟩)
  clear ht5 ho5
  go_wp2
  go_ret
  exact HF.out
end Go.Proofs.Ytamdbfkofdjmlaa.opr

/- Plain facts on jobs: what may be, why not, who reads. No program's run in this file. -/
import Derived.Test.YtjmfneljgogohaaDoorKdP
import Derived.Test.YtjmfneljgogohaaDoorNmP
namespace Go.Proofs.YtjmfneljgogohaaDoor.jb
set_option linter.unusedSimpArgs false
set_option linter.unusedVariables false
open nam exp

/-- A node. -/
structure Nd where
  uid : ByteArray
  kind : Nat
  ins : List Int
  x : Ex
  n : Int
/-- What a kind asks for. -/
structure Ask where
  few : Int
  many : Int
  ty : Nat
  acc : Bool
  least : Int
  most : Int
  keeps : Bool
def ask0 : Ask := ⟨0, 0, 0, false, 0, 0, false⟩
def askL : List Ask := [ask0, ask0, ⟨1, 1, 1, false, 0, 0, false⟩, ⟨1, 1, 2, false, 0, 0, false⟩, ⟨1, 1, 1, false, 0, 0, false⟩, ⟨1, 1, 1, false, 0, 0, false⟩, ⟨1, 1, 1, true, 0, 0, true⟩, ⟨1, 1, 0, false, 1, 16, true⟩, ⟨2, 3, 0, false, 0, 0, false⟩, ⟨1, 1, 0, false, 0, 0, false⟩]
def askR (k : Nat) : Ask := askL.getD k ask0
def kindOk (k : Nat) : Bool := decide (1 ≤ k ∧ k ≤ 9)

/-- The place of the first of which it is so, counted on from k; -1: none. -/
def firstI {α : Type} (f : α → Bool) : List α → Nat → Int
  | [], _ => -1
  | x :: l, k => if f x then (k : Int) else firstI f l (k + 1)
/-- The places of all. -/
def placesI {α : Type} (f : α → Bool) : List α → Nat → List Int
  | [], _ => []
  | x :: l, k => if f x then (k : Int) :: placesI f l (k + 1) else placesI f l (k + 1)
theorem firstI_none {α : Type} {f : α → Bool} : ∀ {l : List α} {k : Nat}, (∀ x ∈ l, f x = false) → firstI f l k = -1
  | [], _, _ => rfl
  | x :: l, k, h => by
    rw [firstI, if_neg (by rw [h x (by simp)]; simp)]
    exact firstI_none fun y hy => h y (List.mem_cons_of_mem _ hy)
theorem firstI_lt {α : Type} {f : α → Bool} : ∀ {l : List α} {k : Nat}, (0 ≤ firstI f l k ↔ ∃ x ∈ l, f x = true)
  | [], k => by simp [firstI]
  | x :: l, k => by
    rw [firstI]
    by_cases h : f x = true
    · rw [if_pos h]
      exact ⟨fun _ => ⟨x, by simp, h⟩, fun _ => by omega⟩
    · rw [if_neg h, firstI_lt (l := l)]
      constructor
      · rintro ⟨y, h1, h2⟩; exact ⟨y, List.mem_cons_of_mem _ h1, h2⟩
      · rintro ⟨y, h1, h2⟩
        rcases List.mem_cons.1 h1 with rfl | h3
        · exact absurd h2 h
        · exact ⟨y, h3, h2⟩
theorem firstI_drop {α : Type} {f : α → Bool} {l : List α} {k j : Nat} (h : j < l.length) : firstI f (l.drop j) k = if f l[j] then (k : Int) else firstI f (l.drop (j + 1)) (k + 1) := by
  rw [List.drop_eq_getElem_cons h, firstI]
theorem placesI_drop {α : Type} {f : α → Bool} {l : List α} {k j : Nat} (h : j < l.length) : placesI f (l.drop j) k = if f l[j] then (k : Int) :: placesI f (l.drop (j + 1)) (k + 1) else placesI f (l.drop (j + 1)) (k + 1) := by
  rw [List.drop_eq_getElem_cons h, placesI]
theorem placesI_len {α : Type} {f : α → Bool} : ∀ {l : List α} {k : Nat}, (placesI f l k).length = (l.filter f).length
  | [], _ => rfl
  | x :: l, k => by
    rw [placesI]
    by_cases h : f x = true
    · rw [if_pos h, List.filter_cons_of_pos h, List.length_cons, List.length_cons, placesI_len]
    · rw [if_neg h, List.filter_cons_of_neg h, placesI_len]

/-- How much room an expression of so many parts leaves. -/
def leave (s : Nat) (r : Int) : Int := if r < 0 then r - 1 else max (-1) (r - s)
def roomN (l : List Nd) (r : Int) : Int := l.foldl (fun r nd => leave nd.x.size r) r
theorem leave_neg {s : Nat} {r : Int} (h : r < 0) : leave s r < 0 := by unfold leave; rw [if_pos h]; omega
theorem leave_pos {s : Nat} {r : Int} (h : 0 ≤ leave s r) : 0 ≤ r ∧ (s : Int) ≤ r ∧ leave s r = r - s := by
  unfold leave at h ⊢
  by_cases hr : r < 0
  · rw [if_pos hr] at h; omega
  · rw [if_neg hr] at h ⊢
    omega
theorem leave_bound {s : Nat} {r m : Int} (h1 : -m ≤ r) (hm : 0 ≤ m) (hr : r ≤ 1000) : -(m + 1) ≤ leave s r ∧ leave s r ≤ 1000 := by
  unfold leave
  by_cases h : r < 0
  · rw [if_pos h]; omega
  · rw [if_neg h]; omega
theorem room_cons (nd : Nd) (l : List Nd) (r : Int) : roomN (nd :: l) r = roomN l (leave nd.x.size r) := rfl
theorem room_neg : ∀ {l : List Nd} {r : Int}, r < 0 → roomN l r < 0
  | [], r, h => h
  | nd :: l, r, h => room_neg (l := l) (leave_neg h)
theorem room_mem : ∀ {l : List Nd} {r : Int}, 0 ≤ roomN l r → ∀ nd ∈ l, (nd.x.size : Int) ≤ r
  | [], _, _, nd, h => by cases h
  | m :: l, r, h, nd, hm => by
    rw [room_cons] at h
    have h0 : 0 ≤ leave m.x.size r := by
      by_cases hn : leave m.x.size r < 0
      · have := room_neg (l := l) hn; omega
      · omega
    obtain ⟨h1, h2, h3⟩ := leave_pos h0
    rcases List.mem_cons.1 hm with rfl | h4
    · exact h2
    · have := room_mem h nd h4
      omega
def boundedB (par : Int) (l : List Nd) : Bool := decide (1 ≤ par ∧ par ≤ 4 ∧ 2 ≤ l.length ∧ l.length ≤ 12) && decide (0 ≤ roomN l 1000)

/-- Whether a node at that place may read these. -/
def badIn (l : List Int) (p : Nat) (i : Int) : Bool := decide (i < 0) || decide ((p : Int) ≤ i) || decide (1 < (l.filter (fun j => decide (j = i))).length)
def takesInB (a : Ask) (l : List Int) (p : Nat) : Bool := decide (a.few ≤ (l.length : Int) ∧ (l.length : Int) ≤ a.many) && l.all (fun i => !badIn l p i)
/-- Is it the zero expression? -/
def isZ (x : Ex) : Bool := decide (x.op = 0) && decide (x.n = 0) && x.args.isEmpty
theorem isZ_iff {x : Ex} : isZ x = true ↔ x = Ex.zero := by
  unfold isZ
  constructor
  · intro h
    rw [Bool.and_eq_true, Bool.and_eq_true, decide_eq_true_eq, decide_eq_true_eq, List.isEmpty_iff] at h
    exact Ex.ext' h.1.1 h.1.2 h.2
  · intro h; rw [h]; rfl
def takesXB (a : Ask) (x : Ex) : Bool := if a.ty = 0 then isZ x else decide (kindO x a.acc = (a.ty, 0))
def mayB (nd : Nd) (p : Nat) : Bool := kindOk nd.kind && nameB nd.uid && takesInB (askR nd.kind) nd.ins p && takesXB (askR nd.kind) nd.x && decide ((askR nd.kind).least ≤ nd.n) && decide (nd.n ≤ (askR nd.kind).most)
theorem mayB_iff {nd : Nd} {p : Nat} : mayB nd p = true ↔ kindOk nd.kind = true ∧ nameB nd.uid = true ∧ takesInB (askR nd.kind) nd.ins p = true ∧ takesXB (askR nd.kind) nd.x = true ∧ (askR nd.kind).least ≤ nd.n ∧ nd.n ≤ (askR nd.kind).most := by
  unfold mayB; simp [and_assoc]
theorem takesIn_mem {a : Ask} {l : List Int} {p : Nat} (h : takesInB a l p = true) {i : Int} (hi : i ∈ l) : 0 ≤ i ∧ i < p := by
  unfold takesInB at h
  rw [Bool.and_eq_true] at h
  have := List.all_eq_true.1 h.2 i hi
  unfold badIn at this
  simp at this
  omega

def named (uid : ByteArray) (nd : Nd) : Bool := decide (nd.uid = uid)
def findI (l : List Nd) (uid : ByteArray) : Int := firstI (named uid) l 0
def reads (p : Int) (nd : Nd) : Bool := decide (p ∈ nd.ins)
def readersI (l : List Nd) (p : Int) : List Int := placesI (reads p) l 0
def flat (nd : Nd) : Bool := decide (nd.kind = 4)
def flatsN (l : List Nd) : Nat := (l.filter flat).length

/-- The first place that has an error, from k on, n of them. -/
def firstErr (f : Nat → Int) : Nat → Nat → Int × Int
  | 0, _ => (0, 0)
  | n + 1, k => if f k ≠ 0 then ((k : Int), f k) else firstErr f n (k + 1)
def errAt (l : List Nd) (k : Nat) : Int := match l[k]? with
  | none => 0
  | some nd => if mayB nd k = false then 120 else if 0 ≤ findI (l.take k) nd.uid then 121 else 0
def sumAt (ws : List Int) (l : List Int) : Int := l.foldl (fun s i => s + ws.getD i.toNat 0) 0
def wayOf (nd : Nd) (ws : List Int) : Int := if nd.kind = 1 then 1 else if nd.kind = 4 then sumAt ws nd.ins * 4 else sumAt ws nd.ins
/-- The ways of the first nodes. -/
def waysL (l : List Nd) : Nat → List Int
  | 0 => []
  | k + 1 => waysL l k ++ [match l[k]? with
    | none => 0
    | some nd => wayOf nd (waysL l k)]
theorem waysL_len (l : List Nd) : ∀ k, (waysL l k).length = k
  | 0 => rfl
  | k + 1 => by rw [waysL, List.length_append, waysL_len l k]; rfl
theorem waysL_succ {l : List Nd} {k : Nat} (h : k < l.length) : waysL l (k + 1) = waysL l k ++ [wayOf l[k] (waysL l k)] := by
  rw [waysL, List.getElem?_eq_getElem h]
def shapeB (l : List Nd) (k : Nat) (nd : Nd) : Bool :=
  (decide (nd.kind = 1) != decide (k = 0)) || (decide (nd.kind = 9) != decide (k + 1 = l.length)) ||
    (!decide (k + 1 = l.length) && !(decide (1 ≤ (readersI l k).length) && decide ((readersI l k).length ≤ 3))) ||
    (decide (nd.kind = 4) && decide (2 ≤ flatsN (l.take k))) || decide (64 < wayOf nd (waysL l k))
def shapeAt (l : List Nd) (k : Nat) : Int := match l[k]? with
  | none => 0
  | some nd => if shapeB l k nd then 122 else 0
def aloneO (l : List Nd) : Int × Int := firstErr (errAt l) l.length 0
def togetherO (l : List Nd) : Int × Int := firstErr (shapeAt l) l.length 0
/-- What May answers. -/
def mayO (par : Int) (l : List Nd) : Int × Int := if boundedB par l = false then (0, 2) else if (aloneO l).2 ≠ 0 then aloneO l else togetherO l
def readersO (par : Int) (l : List Nd) (p : Int) : List Int := if (mayO par l).2 ≠ 0 then [] else readersI l p

theorem firstErr_ok {f : Nat → Int} : ∀ {n k : Nat}, (firstErr f n k).2 = 0 → ∀ j, k ≤ j → j < k + n → f j = 0
  | 0, k, h, j, h1, h2 => by omega
  | n + 1, k, h, j, h1, h2 => by
    rw [firstErr] at h
    by_cases h0 : f k = 0
    · rw [if_neg (by simp [h0])] at h
      by_cases hj : j = k
      · rw [hj]; exact h0
      · exact firstErr_ok h j (by omega) (by omega)
    · rw [if_pos h0] at h; exact absurd h h0
theorem firstErr_all {f : Nat → Int} : ∀ {n k : Nat}, (∀ j, k ≤ j → j < k + n → f j = 0) → firstErr f n k = (0, 0)
  | 0, k, h => rfl
  | n + 1, k, h => by
    rw [firstErr, if_neg (by rw [h k (Nat.le_refl _) (by omega)]; simp)]
    exact firstErr_all fun j h1 h2 => h j (by omega) (by omega)
theorem firstErr_step {f : Nat → Int} {n k : Nat} (h : f k = 0) : firstErr f (n + 1) k = firstErr f n (k + 1) := by rw [firstErr, if_neg (by simp [h])]
theorem firstErr_stop {f : Nat → Int} {n k : Nat} (h : f k ≠ 0) : firstErr f (n + 1) k = ((k : Int), f k) := by rw [firstErr, if_pos h]
theorem alone_ok {l : List Nd} (h : (aloneO l).2 = 0) {k : Nat} (hk : k < l.length) : mayB l[k] k = true := by
  have h1 := firstErr_ok h k (Nat.zero_le _) (by omega)
  unfold errAt at h1
  rw [List.getElem?_eq_getElem hk] at h1
  cases hm : mayB l[k] k with
  | true => rfl
  | false => simp [hm] at h1
theorem sum_cons (ws : List Int) (i : Int) (l : List Int) (s : Int) : (i :: l).foldl (fun s i => s + ws.getD i.toNat 0) s = l.foldl (fun s i => s + ws.getD i.toNat 0) (s + ws.getD i.toNat 0) := rfl
theorem sum_bound {ws : List Int} (hw : ∀ x ∈ ws, 0 ≤ x ∧ x ≤ 64) : ∀ (l : List Int) (s : Int), s ≤ l.foldl (fun s i => s + ws.getD i.toNat 0) s ∧ l.foldl (fun s i => s + ws.getD i.toNat 0) s ≤ s + 64 * l.length
  | [], s => by simp
  | i :: l, s => by
    rw [sum_cons]
    have h := sum_bound hw l (s + ws.getD i.toNat 0)
    have : 0 ≤ ws.getD i.toNat 0 ∧ ws.getD i.toNat 0 ≤ 64 := by
      rw [List.getD_eq_getElem?_getD]
      cases hx : ws[i.toNat]? with
      | none => simp
      | some x => exact hw x (List.mem_of_getElem? hx)
    rw [List.length_cons]
    omega
end Go.Proofs.YtjmfneljgogohaaDoor.jb

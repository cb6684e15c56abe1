/- How many tokens a text has at most: no program's run in this file. -/
import Derived.Test.YtejcgkchlehoiaaDoorLxY
namespace Go.Proofs.YtejcgkchlehoiaaDoor.lex
open nam
theorem scan_few : ∀ (L : List Nat) (done : List Tok) (cur : Option Tok) (p q : Nat), done.length + cur.toList.length ≤ q → (scan done cur p L).1.length ≤ q + L.length
  | [], done, cur, p, q, h => by rw [scan_nil, List.length_append]; simpa using h
  | r :: L, done, cur, p, q, h => by
    rw [List.length_cons]
    cases hk : keepO cur r with
    | yes t =>
      rw [scan_yes hk]
      have := scan_few L done (some t) (p + 1) (q + 1) (by simp; omega)
      omega
    | big => rw [scan_big hk]; simp
    | no =>
      cases hb : blkB r with
      | true =>
        rw [scan_blank hk hb]
        have := scan_few L (done ++ cur.toList) none (p + 1) (q + 1) (by simp; omega)
        omega
      | false =>
        cases hg : beg r p with
        | some t =>
          rw [scan_beg hk hb hg]
          have := scan_few L (done ++ cur.toList) (some t) (p + 1) (q + 1) (by simp; omega)
          omega
        | none => rw [scan_bad hk hb hg]; simp
theorem toks_few (s : ByteArray) : (toksO s).1.length ≤ 400 := by
  unfold toksO
  split
  · simp
  · have h1 := scan_few (rn s 0) [] none 0 0 (by simp)
    have h2 := rn_length s 0
    omega
end Go.Proofs.YtejcgkchlehoiaaDoor.lex

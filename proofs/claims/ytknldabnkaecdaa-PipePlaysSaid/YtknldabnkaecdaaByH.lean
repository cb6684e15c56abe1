/- What changelingref02.TakeText answers: as bytes.TakeText, of every text. -/
import Derived.Test.YtknldabnkaecdaaByG
namespace Go.Proofs.Ytknldabnkaecdaa.byt
open Go.RowKit

theorem refTake_of {s : ByteArray} {n : Int} {k : Nat} {c : Int} (h : take (bl s) = (n, k, c)) (w : World) (hs : s.size ≤ 9223372036854775807) :
    Calls Try.prog 37 #[.string s] w fun e w' => e = .returned (.tuple #[.int .i64 n, .int .i64 k, .int .i64 c]) ∧ w = w' := by
  have := refTake_any s w hs; rwa [takeE_of h] at this

end Go.Proofs.Ytknldabnkaecdaa.byt

/- The library's table of powers, as a row lists it. -/
import Derived.Test.YtffhmbiamkbchaaDoorTlA
namespace Go.Proofs.YtffhmbiamkbchaaDoor.lex
/-- The library's table of powers stands. -/
def Tab (w : World) : Prop := Lib.TabIs Tryd.prog w "internal/strconv.uint64pow10" .u64 Lib.pow10Tab
end Go.Proofs.YtffhmbiamkbchaaDoor.lex
namespace Go.Proofs.YtffhmbiamkbchaaDoor.exp
theorem tab_of {w : World} (h : Go.Proofs.YtffhmbiamkbchaaDoor.lex.Tab w) : Go.Proofs.YtffhmbiamkbchaaDoor.exp.Tab w.heap.size w := Lib.tabBelow_of_tabIs h
end Go.Proofs.YtffhmbiamkbchaaDoor.exp

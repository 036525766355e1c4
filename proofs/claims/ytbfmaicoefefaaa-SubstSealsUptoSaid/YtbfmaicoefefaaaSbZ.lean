/- Stage 7's laws as contracts, over the program's four calls (SubP). -/
import Derived.Test.YtbfmaicoefefaaaSbO
set_option linter.unusedSimpArgs false
set_option linter.unusedVariables false
namespace Go.Proofs.Ytbfmaicoefefaaa
open Go.RowKit Pv
set_option maxRecDepth 100000
theorem puts_law (P : SubP) (t : Ty5) (m n : List Bd) (ht : okT t) (hm : okB m) (hn : okB n) (hzt : szT t ≤ 1048576) (hzm : ∀ p ∈ m, p.1.size ≤ 1048576 ∧ szT p.2 ≤ 1048576) (hzn : ∀ p ∈ n, p.1.size ≤ 1048576 ∧ szT p.2 ≤ 1048576) :
    CP (TT ()) 7 [tyD t, .sl none 6 (bnsD m), .sl none 6 (bnsD n)] (· = .raw (.bool true)) := c4_run (puts_run P t m n ht hm hn hzt hzm hzn)
theorem seals_law (P : SubP) (t : Ty5) (names : List ByteArray) (fr : Int) (l : List Bd) (ht : okT t) (hr : rngT t) (hns : ∀ u ∈ names, u.size ≤ maxLen) (hfr : -9223372036854775808 ≤ fr ∧ fr ≤ 9223372036854775807) (hl : okB l) (hzt : szT t ≤ 1048576) (hzl : ∀ p ∈ l, p.1.size ≤ 1048576 ∧ szT p.2 ≤ 1048576) :
    CP (TT ()) 8 [tyD t, .sl none 1 (names.map strD), .raw (.int .i64 fr), .sl none 6 (bnsD l)] (· = .raw (.bool true)) := c4_run (seals_run P t names fr l ht hr hns hfr hl hzt hzl)
theorem opens_law (P : SubP) (t : Ty5) (m : List Bd) (fr : Int) (hf : 0 ≤ fr ∧ fr ≤ 65535) (ht : okT t) (hr : rngT t) (hm : okB m) (hzt : szT t ≤ 1048576) (hzm : ∀ p ∈ m, p.1.size ≤ 1048576 ∧ szT p.2 ≤ 1048576) :
    CP (TT ()) 9 [tyD t, .sl none 6 (bnsD m), .raw (.int .u16 fr)] (· = .raw (.bool true)) := c4_run (opens_run P t m fr hf.1 hf.2 ht hr hm hzt hzm)
end Go.Proofs.Ytbfmaicoefefaaa

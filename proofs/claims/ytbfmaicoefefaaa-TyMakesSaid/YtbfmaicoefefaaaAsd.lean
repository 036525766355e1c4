/- A fact laid aside: simp never looks in. -/
import Derived.Test.YtbfmaicoefefaaaRows
set_option linter.unusedSimpArgs false
set_option linter.unusedVariables false
namespace Go.Proofs.Ytbfmaicoefefaaa
structure Asd (p : Prop) : Prop where
  out : p
end Go.Proofs.Ytbfmaicoefefaaa

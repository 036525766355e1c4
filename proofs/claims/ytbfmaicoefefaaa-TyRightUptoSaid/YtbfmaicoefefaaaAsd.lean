/- A fact laid aside: simp never looks in. -/
import Derived.Test.YtbfmaicoefefaaaRows
namespace Go.Proofs.Ytbfmaicoefefaaa
structure Asd (p : Prop) : Prop where
  out : p
end Go.Proofs.Ytbfmaicoefefaaa

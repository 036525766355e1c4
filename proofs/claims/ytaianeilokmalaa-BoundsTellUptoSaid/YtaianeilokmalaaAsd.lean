/- A fact laid aside: simp never looks in. -/
import Derived.Test.YtaianeilokmalaaRows
namespace Go.Proofs.Ytaianeilokmalaa
structure Asd (p : Prop) : Prop where
  out : p
end Go.Proofs.Ytaianeilokmalaa

/- A fact laid aside: simp never looks in. -/
import Derived.Test.YtllehceckdcbaaaRows
namespace Go.Proofs.Ytllehceckdcbaaa
structure Asd (p : Prop) : Prop where
  out : p
end Go.Proofs.Ytllehceckdcbaaa

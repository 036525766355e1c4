/- A fact laid aside: simp never looks in. -/
import Derived.Test.YtlklpangckkkaaaRows
namespace Go.Proofs.Ytlklpangckkkaaa
structure Asd (p : Prop) : Prop where
  out : p
end Go.Proofs.Ytlklpangckkkaaa

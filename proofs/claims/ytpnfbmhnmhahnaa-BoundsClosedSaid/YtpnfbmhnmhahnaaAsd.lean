/- A fact laid aside: simp never looks in. -/
import Derived.Test.YtpnfbmhnmhahnaaRows
namespace Go.Proofs.Ytpnfbmhnmhahnaa
structure Asd (p : Prop) : Prop where
  out : p
end Go.Proofs.Ytpnfbmhnmhahnaa

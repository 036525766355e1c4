/- The document's own answers of layer 1: limbeckref01. -/
import Derived.Test.YtllehceckdcbaaaRefKept
namespace Go.Proofs.Ytllehceckdcbaaa
open Go.RowKit
theorem shapeAt_skip {s : ByteArray} {pos : Nat} (h : ShapeAt s pos 0) (h0 : 0 < pos) : ShapeAt s (pos + 1) 0 := by
  rcases h with ⟨rfl, _⟩ | ⟨_, a, r, hl, hk, _⟩
  · omega
  · exact .inr ⟨by omega, a, r, hl, hk, .inl rfl⟩
theorem up_not_low (c : Int) (h : lowB c = true) : upB c = false := by
  simp [lowB] at h; simp [upB]; omega

end Go.Proofs.Ytllehceckdcbaaa

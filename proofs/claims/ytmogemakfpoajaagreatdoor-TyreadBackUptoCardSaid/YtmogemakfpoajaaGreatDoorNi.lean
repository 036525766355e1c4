/- limbeckref04.Rec: of at most 10000 texts and types it answers by RecIs. -/
import Derived.Test.YtmogemakfpoajaaGreatDoorMe
import Derived.Test.YtmogemakfpoajaaGreatDoorNh
import Derived.Test.YtmogemakfpoajaaGreatDoorMs
set_option linter.unusedSimpArgs false
set_option linter.unusedVariables false
set_option maxRecDepth 1000000
set_option maxHeartbeats 40000000
namespace Go.Proofs.YtmogemakfpoajaaGreatDoor
open Go.RowKit Pv Go.Sort
def RecQ (ss : List ByteArray) (ks : List Ty5) : D -> H -> Prop := fun d _ => ∃ b t,Wk d (.tup [tyD t,.raw (.bool b)]) ∧ RecIs ss ks b t
theorem rec_no {ss : List ByteArray} {ks : List Ty5} (h : ss.length ≠ ks.length ∨ ((∃ s ∈ ss,fineB s = false) ∨ ¬ ss.Nodup)) (h' : H) : RecQ ss ks (.tup [.agg [.raw (.int .i64 0),.raw (.int .i64 0),.raw (.string ⟨#[]⟩),.raw (.slice none 0 0),.raw (.slice none 0 0)],.raw (.bool false)]) h' :=
 ⟨false,ty0,.tup (.cons (.agg (.cons (.refl _) (.cons (.refl _) (.cons (.refl _) (.cons (nil_any 1) (.cons (nil_any 5) .nil)))))) (.cons (.refl _) .nil)),.inr ⟨rfl,rfl,h⟩⟩
end Go.Proofs.YtmogemakfpoajaaGreatDoor

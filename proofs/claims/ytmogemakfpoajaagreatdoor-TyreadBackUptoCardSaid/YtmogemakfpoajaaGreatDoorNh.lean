/- limbeckref04.Rec, ahead of its walk: a field put in its place; appends to rows of the call's own. -/
import Derived.Deep.RegionHeld3
import Derived.Deep.DrawnRows
import Derived.Deep.RegionLaw
import Derived.Maps.AppendAt
import Derived.RangeFuncNested
import Derived.RangeFuncBound
import Derived.RangeFuncCalls
import Derived.RangeFuncLeaves
import Derived.Shelf.Abstract
import Derived.Shelf.RegionOpen
import Derived.OwnWalkIn
import Derived.TacticsInMore
import Derived.LoopNIn
import Derived.LoopIn
import Derived.Lib.SlicesCompact
import Derived.Sort.Walk0
import Derived.Sort.OwnSorted
import Derived.Test.YtmogemakfpoajaaGreatDoorRows
import Derived.Test.YtmogemakfpoajaaGreatDoorNe
import Derived.Test.YtmogemakfpoajaaGreatDoorMp
import Derived.Test.YtmogemakfpoajaaGreatDoorNf
import Derived.Test.YtmogemakfpoajaaGreatDoorMs
import Derived.Test.YtmogemakfpoajaaGreatDoorNg
import Derived.Test.YtmogemakfpoajaaGreatDoorMw
set_option linter.unusedSimpArgs false
set_option linter.unusedVariables false
set_option maxRecDepth 1000000
set_option maxHeartbeats 40000000
namespace Go.Proofs.YtmogemakfpoajaaGreatDoor
open Go.RowKit Go.Deep Go.Sort
structure RD (w : World) (ss : List ByteArray) (ks : List Ty5) (i : Nat) (d : List FV) (P : List (ByteArray × Ty5)) : Prop where
 len : d.length = i
 all : All2 (FVIs w) d P
 perm : P.Perm ((ss.zip ks).take i)
 up : (P.map Prod.fst).Pairwise (fun a b => ltS a b = true)
 fine : ∀ s ∈ P.map Prod.fst,fineB s = true
end Go.Proofs.YtmogemakfpoajaaGreatDoor

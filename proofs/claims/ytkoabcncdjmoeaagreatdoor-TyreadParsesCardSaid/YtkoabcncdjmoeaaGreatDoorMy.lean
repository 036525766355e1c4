/- told, of what the program answers. -/
import Derived.Test.YtkoabcncdjmoeaaGreatDoorMx
import Derived.Test.YtkoabcncdjmoeaaGreatDoorMv
set_option linter.unusedSimpArgs false
set_option linter.unusedVariables false
set_option maxRecDepth 1000000
set_option maxHeartbeats 40000000
namespace Go.Proofs.YtkoabcncdjmoeaaGreatDoor
open Go.RowKit Pv
theorem cp_args {k : FuncId} {ds es : List D} {Q : D -> Prop} (c : CP (TT ()) k ds Q) (h : WkL es ds) : CP (TT ()) k es Q := ⟨c.1,fun S w args hS r => c.2 S w args hS (h _ _ _ r)⟩
theorem toldR_cp (e p : Int) (he : e ≠ 0) : CP (TT ()) 10 [errR e p,.raw (.int .i64 e),.raw (.int .i64 p)] (· = .raw (.bool true)) :=
 (cp_args (told_cp e p e p he) (.cons (err_kw e p) (.refl _))).mono fun d h => by
  rw [h]
  simp [he]
theorem toldN_cp (p : Int) : CP (TT ()) 10 [.raw .nilIface,.raw (.int .i64 0),.raw (.int .i64 p)] (· = .raw (.bool true)) := (toldn_cp 0 p).mono fun d h => h
end Go.Proofs.YtkoabcncdjmoeaaGreatDoor

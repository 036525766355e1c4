/- The laid variables: three tables, and the type that errors.Is asks for. -/
import Derived.LaidLaws
import Derived.LaidHandle
import Derived.LaidSub
import Derived.Lay
import Derived.MakeChecks
import Derived.Lib.LaidTab
import Derived.Stop.Joined
import Derived.Handed
import Derived.Test.YtkoabcncdjmoeaaGreatDoorNm
import Derived.Test.YtkoabcncdjmoeaaGreatDoorNs
import Derived.Test.YtkoabcncdjmoeaaGreatDoorMe
set_option linter.unusedSimpArgs false
set_option linter.unusedVariables false
set_option maxRecDepth 1000000
set_option maxHeartbeats 40000000
namespace Go.Proofs.YtkoabcncdjmoeaaGreatDoor
open Go.ChangeShapes Go.WideShapes Go.RowKit Pv
def laidPlain : List (String × DataW Unit) := [("math/bits.deBruijn32tab", Rows.laid_math_bits_deBruijn32tab), ("math/bits.deBruijn64tab", Rows.laid_math_bits_deBruijn64tab), ("internal/strconv.uint64pow10", Rows.laid_internal_strconv_uint64pow10)]
def laidList : List (String × DataW Unit) := laidPlain ++ [("errors.errorType", Rows.laid_errors_errorType)]
theorem errVar : Tryz.prog.globalNamed "errors.errorType" = some 0 := by kernel_rfl
theorem rtRow : (Tryz.prog.cutTypes.find? (·.1 == "internal/reflectlite.rtype")).map (·.2) = some 146 := by kernel_rfl
theorem errRow : ((List.range 232).filter fun t => Tryz.prog.rowNamed t [101,114,114,111,114]) = [28] := by kernel_rfl
theorem typesN : Tryz.prog.types.size = 232 := by kernel_rfl
theorem errHandle : typeHandle Tryz.prog 28 = .pointer (some ⟨4,28,none⟩) := by kernel_rfl
theorem laid_parts {W : World} (h : laidMetH Tryz.prog laidList W) : laidMet Tryz.prog laidPlain W ∧ handlesMet Tryz.prog [("errors.errorType", Rows.laid_errors_errorType)] W := h
theorem handle_of_laid {W : World} (h : laidMetH Tryz.prog laidList W) : W.cell? ⟨0,0,none⟩ = some (.iface 146 (.agg #[.pointer (some ⟨4,28,none⟩)])) := by
 obtain ⟨name,u,ty,e1,e2,e3,e4,e5⟩ := (laid_parts h).2 _ (List.mem_singleton.2 rfl)
 have en : name = [101,114,114,111,114] := (Option.some.inj e1).symm
 subst en
 obtain rfl := Option.some.inj (rtRow.symm.trans e2)
 have hm : ty ∈ (List.range 232).filter fun t => Tryz.prog.rowNamed t [101,114,114,111,114] := List.mem_filter.2 ⟨List.mem_range.2 (by rw [← typesN];exact e3),e4⟩
 rw [errRow] at hm
 obtain rfl := List.mem_singleton.1 hm
 rw [errHandle] at e5
 simpa using World.var?_cell errVar e5 0
theorem tab_at {W : World} (h : laidMetH Tryz.prog laidList W) : Lib.TabIs Tryz.prog W "internal/strconv.uint64pow10" .u64 Lib.pow10Tab := by
 have h2 := (laid_parts h).1.filter fun x => x.1 == "internal/strconv.uint64pow10"
 have h3 : (laidPlain.filter fun x => x.1 == "internal/strconv.uint64pow10") = [("internal/strconv.uint64pow10", Lib.tabData .u64 Lib.pow10Tab)] := by kernel_rfl
 rw [h3] at h2
 exact Lib.tabIs_of_head (t := 191) (e := 116) (n := 20) (g := 1) (by kernel_rfl) (by kernel_rfl) Tryz.underlying191 Tryz.underlying116 (by kernel_rfl) (by kernel_rfl) h2
theorem okay_laid {W : World} (hL : laidMetH Tryz.prog laidList W) : Pv.Okay (allS W) W := by
 have h := tab_at hL
 have he := handle_of_laid hL
 have hg : Tryz.prog.globalNamed "internal/strconv.uint64pow10" = some 1 := by kernel_rfl
 have hlt : 1 < W.heap.size := World.block_lt_of_cell? W _ (h.cell hg 0 (by rw [Lib.pow10Tab_length];decide))
 refine ⟨fun _ _ h => h,fun x hx => ?_⟩
 unfold Pv.ghost at hx
 rcases List.mem_append.1 hx with hx | hx
 ·obtain ⟨i,hi,rfl⟩ := List.mem_map.1 hx
  refine ⟨hlt,?_⟩
  rw [List.mem_range] at hi
  by_cases h20 : i < 20
  ·simp only [if_pos h20]
   rw [h.cell hg i (by rw [Lib.pow10Tab_length];omega),Lib.pow10Tab_at _ h20]
  ·simp only [if_neg h20]
   have := World.var?_cell hg h i
   rw [this]
   simp [Lib.pow10Tab]
   omega
 ·obtain rfl := List.mem_singleton.1 hx
  exact ⟨World.block_lt_of_cell? W _ he,he⟩
noncomputable def laidWorld (os : Os) : World :=
 let w0 := World.laidAll Tryz.prog os laidPlain
 { w0 with heap := w0.heap.modify 0 fun
   | .cells _ t frozen => .cells #[.iface 146 (.agg #[.pointer (some ⟨4,28,none⟩)])] t frozen
   | o => o }
theorem laidWorld_met (os : Os) (args : Array Value) : laidMetH Tryz.prog laidList ((laidWorld os).forCall (fun _ _ => 0) ⟨#[],args,[]⟩).memory :=
 laidMetH_of_parts (laidMet_of_run' 8 (by kernel_rfl) (by kernel_rfl)) (by kernel_rfl)
end Go.Proofs.YtkoabcncdjmoeaaGreatDoor

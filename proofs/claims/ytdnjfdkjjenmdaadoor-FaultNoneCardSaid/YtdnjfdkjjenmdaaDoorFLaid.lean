/- The laid variable, and a slice of wraps among the arguments. -/
import Derived.Test.YtdnjfdkjjenmdaaDoorPost
import Derived.Test.YtdnjfdkjjenmdaaDoorFStays
import Derived.Deep.SlicePairs
import Derived.LaidLaws
import Derived.LaidHandle
import Derived.Stop.Joined
import Derived.Handed
namespace Go.Proofs.YtdnjfdkjjenmdaaDoor
open Go.ChangeShapes Go.WideShapes Go.RowKit
def laidList : List (String × DataW Unit) := [("errors.errorType", Rows.laid_errors_errorType)]
theorem errVar : Tryd.prog.globalNamed "errors.errorType" = some 0 := by kernel_rfl
theorem rtRow : (Tryd.prog.cutTypes.find? (·.1 == "internal/reflectlite.rtype")).map (·.2) = some 66 := by kernel_rfl
theorem errRow : ((List.range 121).filter fun t => Tryd.prog.rowNamed t [101, 114, 114, 111, 114]) = [26] := by kernel_rfl
theorem typesN : Tryd.prog.types.size = 121 := by kernel_rfl
theorem errHandle : typeHandle Tryd.prog 26 = .pointer (some ⟨1, 26, none⟩) := by kernel_rfl
/-- The variable's one cell. -/
theorem handle_of_laid {W : World} (h : laidMetH Tryd.prog laidList W) : W.cell? ⟨0, 0, none⟩ = some (.iface 66 (.agg #[.pointer (some ⟨1, 26, none⟩)])) := by
  have h' : laidMet Tryd.prog [] W ∧ handlesMet Tryd.prog laidList W := h
  obtain ⟨name, u, ty, e1, e2, e3, e4, e5⟩ := h'.2 _ (List.mem_singleton.2 rfl)
  have en : name = [101, 114, 114, 111, 114] := (Option.some.inj e1).symm
  subst en
  obtain rfl := Option.some.inj (rtRow.symm.trans e2)
  have hm : ty ∈ (List.range 121).filter fun t => Tryd.prog.rowNamed t [101, 114, 114, 111, 114] := List.mem_filter.2 ⟨List.mem_range.2 (by rw [← typesN]; exact e3), e4⟩
  rw [errRow] at hm
  obtain rfl := List.mem_singleton.1 hm
  rw [errHandle] at e5
  simpa using World.var?_cell errVar e5 0
/-- A world where the variable is laid. -/
noncomputable def laidWorld (os : Os) : World :=
  let w0 := World.holding Tryd.prog os ⟨#[], #[], []⟩
  { w0 with heap := w0.heap.modify 0 fun
      | .cells _ t frozen => .cells #[.iface 66 (.agg #[.pointer (some ⟨1, 26, none⟩)])] t frozen
      | o => o }
theorem laidWorld_met (os : Os) (args : Array Value) : laidMetH Tryd.prog laidList ((laidWorld os).forCall (fun _ _ => 0) ⟨#[], args, []⟩).memory :=
  laidMetH_of_parts (laidMet_nil _ _) (by kernel_rfl)
section
variable {H : Type} {enc : TypeId × Value → H}
theorem cells_wrap : Tryd.prog.cellsOf 44 = 2 := by kernel_rfl
theorem cells_str : Tryd.prog.cellsOf 9 = 1 := by kernel_rfl
theorem cells_bool : Tryd.prog.cellsOf 4 = 1 := by kernel_rfl
set_option maxRecDepth 20000 in
theorem wrapsAt_of {W : World} {base : Nat} {v : Value} {d : DataW H} {p : List MemPlace}
    (hok : Value.okWide Tryd.prog W .any base 23 v) (h : DataW.Trod enc Tryd.prog W 0 (fun _ => true) true 23 v d p) : ∃ ws, WrapsAt W v ws := by
  obtain ⟨a0, len, cap, rfl⟩ := okWide_slice Tryd.underlying23 hok
  obtain ⟨fuel, hf⟩ := h
  rcases Go.Deep.open_slice_pairs Tryd.underlying23 Tryd.underlying44 cells_wrap rfl rfl cells_str cells_bool hf with ⟨hcs, _⟩ | ⟨a, len', cap', m, n, V0, V1, D0, D1, P0, P1, hcs, _, hl, hm, hmm, _, hx⟩
  · simp [Value.cells] at hcs
    obtain ⟨rfl, rfl, rfl⟩ := hcs
    exact ⟨[], .inl ⟨none, 0, rfl, rfl⟩⟩
  · simp [Value.cells] at hcs
    obtain ⟨rfl, rfl, rfl⟩ := hcs
    simp only [if_true] at hmm
    by_cases hl0 : len = 0
    · subst hl0
      exact ⟨[], .inl ⟨some a, cap, rfl, rfl⟩⟩
    have each : ∀ i, i < m → ∃ q : ByteArray × Bool, V0 i = .string q.1 ∧ V1 i = .bool q.2 := fun i hi => by
      obtain ⟨_, _, g0, g1⟩ := hx i hi
      obtain ⟨s, hs, _⟩ := DataW.trod_string Tryd.underlying9 g0
      obtain ⟨b, hb, _⟩ := DataW.trod_bool Tryd.underlying4 g1
      exact ⟨(s, b), by simpa using hs, by simpa using hb⟩
    obtain ⟨b, off, spot⟩ := a
    have hspot : spot = none := by simpa [Addr.add] using World.cell?_spot (hx 0 (by omega)).1
    subst hspot
    have hq : ∃ q : Nat → ByteArray × Bool, ∀ i, i < m → V0 i = .string (q i).1 ∧ V1 i = .bool (q i).2 :=
      ⟨fun i => if h : i < m then Classical.choose (each i h) else (⟨#[]⟩, false), fun i h => by
        simp only [h, dif_pos]
        exact Classical.choose_spec (each i h)⟩
    obtain ⟨q, hq⟩ := hq
    refine ⟨(List.range len).map q, .inr ⟨b, off, cap, by simp, by simp; omega, fun j hj => ?_⟩⟩
    have hj' : j < len := by simpa using hj
    obtain ⟨c0, c1, _, _⟩ := hx j (by omega)
    obtain ⟨q0, q1⟩ := hq j (by omega)
    have hw : wAt ((List.range len).map q) j = q j := by simp [wAt, List.getD_eq_getElem?_getD, hj']
    rw [hw, ← q0, ← q1]
    rw [add_plain] at c0 c1
    exact ⟨c0, c1⟩
end
end Go.Proofs.YtdnjfdkjjenmdaaDoor

/- limbecklaw02.FaultNone: the walk. -/
import Derived.Test.YtdnjfdkjjenmdaaDoorFRef
namespace Go.Proofs.YtdnjfdkjjenmdaaDoor
open Go.RowKit
theorem in_nil (d : ByteArray) (w : World) : Calls Tryd.prog 16 #[.string d, .nilIface] w fun ev w' => ev = .returned .nilIface ∧ Below w.heap.size w w' :=
  (in_any d .nil w trivial).mono fun _ _ h => ⟨h.2, h.1⟩
theorem new_nil (a : Int) (w : World) : Calls Tryd.prog 17 #[.int .i64 0, .int .i64 a] w fun ev w' => ev = .returned .nilIface ∧ w = w' := new_any 0 a w
theorem code_nil (w : World) (hg : w.cell? ⟨0, 0, none⟩ = some (.iface 66 (.agg #[.pointer (some ⟨1, 26, none⟩)]))) : Calls Tryd.prog 9 #[.nilIface] w fun ev w' => ev = .returned (.int .i64 0) ∧ Below w.heap.size w w' := code_any .nil w trivial hg
theorem at_nil (w : World) (hg : w.cell? ⟨0, 0, none⟩ = some (.iface 66 (.agg #[.pointer (some ⟨1, 26, none⟩)]))) : Calls Tryd.prog 11 #[.nilIface] w fun ev w' => ev = .returned (.int .i64 (-1)) ∧ Below w.heap.size w w' := at_any .nil w trivial hg
theorem def_nil (w : World) (hg : w.cell? ⟨0, 0, none⟩ = some (.iface 66 (.agg #[.pointer (some ⟨1, 26, none⟩)]))) : Calls Tryd.prog 13 #[.nilIface] w fun ev w' => ev = .returned (.string ⟨#[]⟩) ∧ Below w.heap.size w w' := def_any .nil w trivial hg
theorem is_nil (c : Int) (w : World) : Calls Tryd.prog 8 #[.nilIface, .int .i64 c] w fun ev w' => ev = .returned (.bool (c == 0)) ∧ Below w.heap.size w w' := fis_any .nil c w trivial

theorem none_any (d : ByteArray) (c : Int) (w : World) (hg : w.cell? ⟨0, 0, none⟩ = some (.iface 66 (.agg #[.pointer (some ⟨1, 26, none⟩)]))) : Calls Tryd.prog 5 #[.string d, .int .i64 c] w fun e w' => e = .returned (.bool true) ∧ Below w.heap.size w w' := by
  have G0 : Aside (w.cell? ⟨0, 0, none⟩ = some (.iface 66 (.agg #[.pointer (some ⟨1, 26, none⟩)]))) := hg
  clear hg
  rcases Bool.eq_false_or_eq_true (c == 0) with hc | hc
  all_goals
    go_enter Tryd.func5, Tryd.ntmps5
    go_wp2_with fail
    refine (new_nil 3 _).mono ?_; rintro ev w1 ⟨rfl, rfl⟩
    go_wp2_with fail
    refine (in_nil d _).mono ?_; rintro ev w2 ⟨rfl, hb2⟩
    have A2 : Aside (Below w.heap.size w w2) := hb2
    clear hb2
    go_wp2_with fail
    refine (code_nil _ (below_cellOf A2.out G0.out)).mono ?_; rintro ev w3 ⟨rfl, hb3⟩
    have A3 : Aside (Below w.heap.size w w3) := A2.out.trans (hb3.mono A2.out.size)
    clear hb3
    go_wp2_with fail
    refine (at_nil _ (below_cellOf A3.out G0.out)).mono ?_; rintro ev w4 ⟨rfl, hb4⟩
    have A4 : Aside (Below w.heap.size w w4) := A3.out.trans (hb4.mono A3.out.size)
    clear hb4
    go_wp2_with fail
    refine (def_nil _ (below_cellOf A4.out G0.out)).mono ?_; rintro ev w5 ⟨rfl, hb5⟩
    have A5 : Aside (Below w.heap.size w w5) := A4.out.trans (hb5.mono A4.out.size)
    clear hb5
    go_wp2_with fail
    refine (is_nil c _).mono ?_; rintro ev w6 ⟨rfl, hb6⟩
    have A6 : Aside (Below w.heap.size w w6) := A5.out.trans (hb6.mono A5.out.size)
    clear hb6
    go_wp2_with fail
    refine (awake_any _ (below_cellOf A6.out G0.out)).mono ?_; rintro ev w7 ⟨rfl, hb7⟩
    have A7 : Aside (Below w.heap.size w w7) := A6.out.trans (hb7.mono A6.out.size)
    clear hb7
    go_wp2_with fail
    go_ret
    exact ⟨rfl, A7.out⟩
end Go.Proofs.YtdnjfdkjjenmdaaDoor

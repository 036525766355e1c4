/- The document's own answers of layer 4: nodes. -/
import Derived.Test.YtllehceckdcbaaaTyP
import Derived.BigQuiet
import Derived.Deep.QuietTactic
import Derived.Laws.RangeAny
import Derived.Lib.OthersKept
import Derived.Lib.QuietBelow
namespace Go.Proofs.Ytllehceckdcbaaa
open Go.RowKit Go.Deep Go.Sort
theorem alloc_at (w : World) (vs : Array Value) (t : TypeId) (i : Nat) (v : Value) (h : vs[i]? = some v) : (w.alloc (.cells vs t)).cell? ⟨w.heap.size, i, none⟩ = some v := by
  have hi : i < vs.size := (Array.getElem?_eq_some_iff.1 h).1
  simp [go_sem, h]
theorem alloc_lt (w : World) (o : Obj) : w.heap.size < (w.alloc o).heap.size := by
  simp [go_sem]
theorem i64_small {a b : Int} (h : a = b) (h0 : 0 ≤ b) (h1 : b ≤ 1000001) : Value.int .i64 (wrap64 a) = .int .i64 b := by
  subst h
  have : wrap64 a = a := by unfold wrap64; omega
  rw [this]
theorem cell_below {w w' : World} (h : Below w.heap.size w w') {a : Addr} {v : Value} (hc : w.cell? a = some v) : w'.cell? a = some v := by
  rw [← hc]
  exact h.cell (Nat.lt_of_not_le fun hn => by simp [World.cell?, Array.getElem?_eq_none hn] at hc)
end Go.Proofs.Ytllehceckdcbaaa

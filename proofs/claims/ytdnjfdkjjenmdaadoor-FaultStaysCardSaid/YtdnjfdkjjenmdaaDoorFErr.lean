/- Errors as a chain: what an error is (a number, a fault, a stranger's wrap, a name's wrap), how it lies in memory, and what the document says of it. -/
import Derived.Test.YtdnjfdkjjenmdaaDoorRows
import Derived.WalkKit
import Derived.ProofKit
import Derived.OpenShut
import Derived.Handy
import Derived.LaidEql
import Derived.Stop.Asserts
import Derived.RowKitTokens
import Derived.Below
import Derived.Laws.StructEq
import Derived.Lib.Hide
import Derived.Deep.LoopGhost
import Derived.Defers
import Derived.Recover
namespace Go.Proofs.YtdnjfdkjjenmdaaDoor
open Go.RowKit
theorem below_cellOf {w w' : World} (h : Below w.heap.size w w') {a : Addr} {v : Value} (hc : w.cell? a = some v) : w'.cell? a = some v := by
  rw [← hc]
  exact h.cell (Nat.lt_of_not_le fun hn => by simp [World.cell?, Array.getElem?_eq_none hn] at hc)

inductive Er where
  | nil
  | num (c : Int)
  | placed (c a : Int)
  | str (b : Nat) (i : Er)
  | nam (b : Nat) (d : ByteArray) (i : Er)

def Er.val : Er → Value
  | .nil => .nilIface
  | .num c => .iface 22 (.int .i64 c)
  | .placed c a => .iface 52 (.agg #[.int .i64 c, .int .i64 a])
  | .str b _ => .iface 45 (.pointer (some ⟨b, 0, none⟩))
  | .nam b _ _ => .iface 54 (.pointer (some ⟨b, 0, none⟩))

def Er.At (w : World) : Er → Prop
  | .nil => True
  | .num _ => True
  | .placed _ _ => True
  | .str b i => w.cell? ⟨b, 0, none⟩ = some i.val ∧ i.At w
  | .nam b d i => w.cell? ⟨b, 0, none⟩ = some (.string d) ∧ w.cell? ⟨b, 1, none⟩ = some i.val ∧ i.At w

theorem Er.At.mono {w w' : World} (hb : Below w.heap.size w w') : ∀ {e : Er}, e.At w → e.At w'
  | .nil, _ => trivial
  | .num _, _ => trivial
  | .placed _ _, _ => trivial
  | .str _ i, h => ⟨below_cellOf hb h.1, Er.At.mono hb (e := i) h.2⟩
  | .nam _ _ i, h => ⟨below_cellOf hb h.1, below_cellOf hb h.2.1, Er.At.mono hb (e := i) h.2.2⟩

def Er.isNil : Er → Bool
  | .nil => true
  | _ => false
def Er.depth : Er → Nat
  | .nil => 0
  | .num _ => 1
  | .placed _ _ => 2
  | .str _ i => i.depth + 1
  | .nam _ _ i => i.depth + 1
/-- Is the number c in it. -/
def Er.isIn (c : Int) : Er → Bool
  | .nil => false
  | .num n => n == c
  | .placed n _ => n == c
  | .str _ i => i.isIn c
  | .nam _ _ i => i.isIn c
/-- The fault in it. -/
def Er.plc : Er → Option (Int × Int)
  | .nil => none
  | .num _ => none
  | .placed c a => some (c, a)
  | .str _ i => i.plc
  | .nam _ _ i => i.plc
/-- From the outermost name on. -/
def Er.strip : Er → Er
  | .nil => .nil
  | .num _ => .nil
  | .placed _ _ => .nil
  | .str _ i => i.strip
  | .nam b d i => .nam b d i
def Er.ptr : Er → Option Addr
  | .nam b _ _ => some ⟨b, 0, none⟩
  | _ => none
def Er.defFrom (x : ByteArray) : Er → ByteArray
  | .nil => x
  | .num _ => x
  | .placed _ _ => x
  | .str _ i => i.defFrom x
  | .nam _ d i => i.defFrom d
theorem Er.strip_at {w : World} : ∀ {e : Er}, e.At w → e.strip.At w
  | .nil, _ => trivial
  | .num _, _ => trivial
  | .placed _ _, _ => trivial
  | .str _ i, h => Er.strip_at (e := i) h.2
  | .nam _ _ _, h => h
theorem Er.strip_def (x : ByteArray) : ∀ e : Er, e.strip.defFrom x = e.defFrom x
  | .nil => rfl
  | .num _ => rfl
  | .placed _ _ => rfl
  | .str _ i => Er.strip_def x i
  | .nam _ _ _ => rfl
theorem Er.strip_depth : ∀ e : Er, e.strip.depth ≤ e.depth
  | .nil => Nat.le_refl _
  | .num _ => Nat.zero_le _
  | .placed _ _ => Nat.zero_le _
  | .str _ i => Nat.le_succ_of_le (Er.strip_depth i)
  | .nam _ _ _ => Nat.le_refl _

/-! ### '==' at errors, and between two faults -/
theorem errnoComp : (Tryd.prog.info? 22).map (·.comparable) = some true := by kernel_rfl
theorem eqErrno (a b : Int) (w : World) : (binOp .eql 26 (.iface 22 (.int .i64 a)) (.iface 22 (.int .i64 b))).run Tryd.prog w = .ok (.bool (a == b)) w := by
  obtain ⟨i, hi, hc⟩ := Option.map_eq_some_iff.1 errnoComp
  have hd : ∀ d : Nat, (Op.equalIn (d + 2) 26 (.iface 22 (.int .i64 a)) (.iface 22 (.int .i64 b))).run Tryd.prog w = .ok (a == b) w := fun d => by
    simp [Op.equalIn, run_underlying Tryd.underlying26, run_underlying Tryd.underlying22, typeInfo, hi, hc]
  simp only [binOp]
  simp [Op.equal, Op.maxDepth, hd 9998]
theorem eqPlaced (v : Value) (b : Int) (w : World) : (binOp .eql 26 (.iface 52 v) (.iface 22 (.int .i64 b))).run Tryd.prog w = .ok (.bool false) w :=
  run_eql_iface_types (P := Tryd.prog) 52 22 v (.int .i64 b) Tryd.underlying26 (by decide) w
theorem eqStr (v : Value) (b : Int) (w : World) : (binOp .eql 26 (.iface 45 v) (.iface 22 (.int .i64 b))).run Tryd.prog w = .ok (.bool false) w :=
  run_eql_iface_types (P := Tryd.prog) 45 22 v (.int .i64 b) Tryd.underlying26 (by decide) w
theorem eqNam (v : Value) (b : Int) (w : World) : (binOp .eql 26 (.iface 54 v) (.iface 22 (.int .i64 b))).run Tryd.prog w = .ok (.bool false) w :=
  run_eql_iface_types (P := Tryd.prog) 54 22 v (.int .i64 b) Tryd.underlying26 (by decide) w
/-- Two faults are the same if number and place are. -/
theorem heldPlaced : Tryd.prog.stoodInHeld 52 = false := by kernel_rfl
theorem fieldsPlaced : Tryd.prog.underlying 52 = some (.struct (Tryd.prog.fieldsOf 52)) := by kernel_rfl
theorem nePlaced (c a c' a' : Int) (w : World) : (binOp .neq 52 (.agg #[.int .i64 c, .int .i64 a]) (.agg #[.int .i64 c', .int .i64 a'])).run Tryd.prog w = .ok (.bool (!(c == c' && a == a'))) w := by
  rw [run_neq_struct, run_equalIn_agg (d := 9999) w _ _ _ fieldsPlaced heldPlaced]
  by_cases h1 : c = c' <;> by_cases h2 : a = a' <;> simp [Program.fieldsOf, Tryd.underlying52, go_sem, Tryd.underlying22, Tryd.underlying3, h1, h2]

theorem eqNilVal (e : Er) (h : e.isNil = false) (w : World) : (binOp .eql 26 e.val .nilIface).run Tryd.prog w = .ok (.bool false) w := by
  cases e <;> first | (simp [Er.isNil] at h; done) | simp [Er.val, go_sem, Tryd.underlying26]
theorem neNilVal (e : Er) (h : e.isNil = false) (w : World) : (binOp .neq 26 e.val .nilIface).run Tryd.prog w = .ok (.bool true) w := by
  cases e <;> first | (simp [Er.isNil] at h; done) | simp [Er.val, go_sem, Tryd.underlying26]

theorem egNil (e : Er) (h : e.isNil = false) (op : BinOp) (x y : Operand) (w : World) : (eqGuard op 26 x y e.val .nilIface).run Tryd.prog w = .ok () w := by
  cases e <;> first | (simp [Er.isNil] at h; done) | (cases op <;> simp [Er.val, go_sem, Tryd.underlying26])

/-! ### The small functions -/
theorem unwrapPlaced (c a : Int) (w : World) : Calls Tryd.prog 54 #[.agg #[.int .i64 c, .int .i64 a]] w fun e w' => e = .returned (Er.val (.num c)) ∧ Below w.heap.size w w' := by
  go_enter Tryd.func54, Tryd.ntmps54
  go_wp2
  go_ret
  exact ⟨rfl, (Below.refl _ _).alloc (Nat.le_refl _) _⟩
theorem unwrapStr (b : Nat) (v : Value) (w : World) (h : w.cell? ⟨b, 0, none⟩ = some v) : Calls Tryd.prog 52 #[.pointer (some ⟨b, 0, none⟩)] w fun e w' => e = .returned v ∧ w = w' := by
  go_enter Tryd.func52, Tryd.ntmps52
  go_wp2
  go_ret
  exact ⟨rfl, rfl⟩
theorem unwrapNam (b : Nat) (v : Value) (w : World) (h : w.cell? ⟨b, 1, none⟩ = some v) : Calls Tryd.prog 56 #[.pointer (some ⟨b, 0, none⟩)] w fun e w' => e = .returned v ∧ w = w' := by
  go_enter Tryd.func56, Tryd.ntmps56
  go_wp2
  go_ret
  exact ⟨rfl, rfl⟩
end Go.Proofs.YtdnjfdkjjenmdaaDoor

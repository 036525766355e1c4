/- errors.Is over a chain, for a number. -/
import Derived.Test.YtdnjfdkjjenmdaaDoorFErr
namespace Go.Proofs.YtdnjfdkjjenmdaaDoor
open Go.RowKit Go.Extern.Stop Go.Stop Go.Extern Go.Extern.Rtype
theorem isTypeOf (v : Value) (w : World) : (Extern.ReflectliteType.typeOf #[.iface 22 v]).run Tryd.prog w = .ok (.iface 66 (.agg #[.pointer (some ⟨1, 22, none⟩)])) w := by kernel_rfl
theorem callComparable (w : World) : (callFunc 59 #[.agg #[.pointer (some ⟨1, 22, none⟩)]]).run Tryd.prog w = .ok (.value (.bool true)) w := by
  rw [@run_callFunc_extern Tryd.prog 59 _ (Extern.ReflectliteType.method fun t => do noPackHeld "Comparable" t; pure (.bool (← typeInfo t).comparable)) Tryd.func59 (by kernel_rfl) (by kernel_rfl) (by kernel_rfl) (by kernel_rfl)]
  rw [show (Extern.ReflectliteType.method (fun t => do noPackHeld "Comparable" t; pure (.bool (← typeInfo t).comparable)) #[.agg #[.pointer (some ⟨1, 22, none⟩)]]).run Tryd.prog w = .ok (.bool true) w from by kernel_rfl]
  rfl
theorem callTypeOf (v : Value) (w : World) : (callFunc 22 #[.iface 22 v]).run Tryd.prog w = .ok (.value (.iface 66 (.agg #[.pointer (some ⟨1, 22, none⟩)]))) w := by
  rw [@run_callFunc_extern Tryd.prog 22 _ Extern.ReflectliteType.typeOf Tryd.func22 (by kernel_rfl) (by kernel_rfl) (by kernel_rfl) (by kernel_rfl), isTypeOf]
  rfl
theorem isMethodComparable (v : Value) (w : World) : (Go.method 221 66 v "Comparable").run Tryd.prog w = .ok (59, v) w := by kernel_rfl

theorem noIsP (v : Value) (xT : TypeId) (w : World) : (Instr.typeAssert (.iface 52 v) xT 68 true).run Tryd.prog w = .ok (.tuple #[.nilIface, .bool false]) w := run_typeAssert_lacksB Tryd.underlying68 (by kernel_rfl) (by kernel_rfl) v xT w
theorem noIsS (v : Value) (xT : TypeId) (w : World) : (Instr.typeAssert (.iface 45 v) xT 68 true).run Tryd.prog w = .ok (.tuple #[.nilIface, .bool false]) w := run_typeAssert_lacksB Tryd.underlying68 (by kernel_rfl) (by kernel_rfl) v xT w
theorem noIsN (v : Value) (xT : TypeId) (w : World) : (Instr.typeAssert (.iface 54 v) xT 68 true).run Tryd.prog w = .ok (.tuple #[.nilIface, .bool false]) w := run_typeAssert_lacksB Tryd.underlying68 (by kernel_rfl) (by kernel_rfl) v xT w
theorem noIsE (v : Value) (xT : TypeId) (w : World) : (Instr.typeAssert (.iface 22 v) xT 68 true).run Tryd.prog w = .ok (.tuple #[.nilIface, .bool false]) w := run_typeAssert_lacksB Tryd.underlying68 (by kernel_rfl) (by kernel_rfl) v xT w
theorem noUnwrapE (v : Value) (xT : TypeId) (w : World) : (Instr.typeAssert (.iface 22 v) xT 71 true).run Tryd.prog w = .ok (.tuple #[.nilIface, .bool false]) w := run_typeAssert_lacksB Tryd.underlying71 (by kernel_rfl) (by kernel_rfl) v xT w
theorem noUnwrapsE (v : Value) (xT : TypeId) (w : World) : (Instr.typeAssert (.iface 22 v) xT 73 true).run Tryd.prog w = .ok (.tuple #[.nilIface, .bool false]) w := run_typeAssert_lacksB Tryd.underlying73 (by kernel_rfl) (by kernel_rfl) v xT w
theorem hasUnwrapP (v : Value) (xT : TypeId) (w : World) : (Instr.typeAssert (.iface 52 v) xT 71 true).run Tryd.prog w = .ok (.tuple #[.iface 52 v, .bool true]) w := run_typeAssert_hasB Tryd.underlying71 (by kernel_rfl) v xT w
theorem hasUnwrapS (v : Value) (xT : TypeId) (w : World) : (Instr.typeAssert (.iface 45 v) xT 71 true).run Tryd.prog w = .ok (.tuple #[.iface 45 v, .bool true]) w := run_typeAssert_hasB Tryd.underlying71 (by kernel_rfl) v xT w
theorem hasUnwrapN (v : Value) (xT : TypeId) (w : World) : (Instr.typeAssert (.iface 54 v) xT 71 true).run Tryd.prog w = .ok (.tuple #[.iface 54 v, .bool true]) w := run_typeAssert_hasB Tryd.underlying71 (by kernel_rfl) v xT w
theorem methodUnwrapP (v : Value) (w : World) : (Go.method 221 52 v "Unwrap").run Tryd.prog w = .ok (54, v) w := by kernel_rfl
theorem methodUnwrapS (v : Value) (w : World) : (Go.method 221 45 v "Unwrap").run Tryd.prog w = .ok (52, v) w := by kernel_rfl
theorem methodUnwrapN (v : Value) (w : World) : (Go.method 221 54 v "Unwrap").run Tryd.prog w = .ok (56, v) w := by kernel_rfl

theorem ret_bool {a b : Bool} (h : a = b) : Ending.returned (.bool a) = .returned (.bool b) := by rw [h]

set_option maxRecDepth 8000 in
theorem is_any (e : Er) (c : Int) (w : World) (he : e.At w) (hn : e.isNil = false) :
    Calls Tryd.prog 23 #[e.val, .iface 22 (.int .i64 c), .bool true] w fun ev w' => ev = .returned (.bool (e.isIn c)) ∧ Below w.heap.size w w' := by
  have q1 := eqErrno
  have q2 := eqPlaced
  have q3 := eqStr
  have q4 := eqNam
  have n1 := noIsP
  have n2 := noIsS
  have n3 := noIsN
  have n4 := noIsE
  have n5 := noUnwrapE
  have n6 := noUnwrapsE
  have u1 := hasUnwrapP
  have u2 := hasUnwrapS
  have u3 := hasUnwrapN
  have m1 := methodUnwrapP
  have m2 := methodUnwrapS
  have m3 := methodUnwrapN
  have H : Aside (e.At w ∧ e.isNil = false) := ⟨he, hn⟩
  clear he hn
  go_enter Tryd.func23, Tryd.ntmps23
  go_wp2
  go_loopg [0] e.depth (fun k p wr => ∃ x : Er, p = x.val ∧ x.At wr ∧ x.isNil = false ∧ x.isIn c = e.isIn c ∧ x.depth = k ∧ Below w.heap.size w wr)
  case atStart => exact ⟨e, rfl, H.out.1, H.out.2, rfl, rfl, Below.refl _ _⟩
  case round =>
    obtain ⟨x, rfl, hx, hxn, hin, hk, hb⟩ := hrel
    have HH : Aside (x.isIn c = e.isIn c ∧ x.depth = gk ∧ Below w.heap.size w wr ∧ x.isNil = false) := ⟨hin, hk, hb, hxn⟩
    clear hin hk hb hxn
    cases x with
    | nil => exact absurd HH.out.2.2.2 (by simp [Er.isNil])
    | num n =>
      simp only [Er.val]
      rcases Bool.eq_false_or_eq_true (n == c) with h | h
      · go_wp2
        go_ret
        exact ⟨ret_bool (by rw [← HH.out.1, ← h]; rfl), HH.out.2.2.1⟩
      · go_wp2
        go_ret
        exact ⟨ret_bool (by rw [← HH.out.1, ← h]; rfl), HH.out.2.2.1⟩
    | placed n a =>
      simp only [Er.val]
      have eg := egNil (.num n) rfl; have en := eqNilVal (.num n) rfl
      go_wp2_with (go_at_call 54; refine (unwrapPlaced _ _ _).mono ?_; rintro ev w1 ⟨rfl, hb1⟩)
      go_roundg 1
      case measure => have := HH.out.2.1; simp [Er.depth] at this; omega
      case rel => exact ⟨.num n, rfl, trivial, rfl, HH.out.1, rfl, HH.out.2.2.1.trans (hb1.mono HH.out.2.2.1.size)⟩
    | str b i =>
      simp only [Er.val]
      rcases Bool.eq_false_or_eq_true i.isNil with h | h
      · cases i <;> simp [Er.isNil] at h
        go_wp2_with (go_at_call 52; refine (unwrapStr _ .nilIface _ hx.1).mono ?_; rintro ev w1 ⟨rfl, rfl⟩)
        go_ret
        exact ⟨ret_bool (by rw [← HH.out.1]; rfl), HH.out.2.2.1⟩
      · have eg := egNil i h; have en := eqNilVal i h
        go_wp2_with (go_at_call 52; refine (unwrapStr _ _ _ hx.1).mono ?_; rintro ev w1 ⟨rfl, rfl⟩)
        go_roundg i.depth
        case measure => have := HH.out.2.1; simp [Er.depth] at this; omega
        case rel => exact ⟨i, rfl, hx.2, h, HH.out.1, rfl, HH.out.2.2.1⟩
    | nam b d i =>
      simp only [Er.val]
      rcases Bool.eq_false_or_eq_true i.isNil with h | h
      · cases i <;> simp [Er.isNil] at h
        go_wp2_with (go_at_call 56; refine (unwrapNam _ .nilIface _ hx.2.1).mono ?_; rintro ev w1 ⟨rfl, rfl⟩)
        go_ret
        exact ⟨ret_bool (by rw [← HH.out.1]; rfl), HH.out.2.2.1⟩
      · have eg := egNil i h; have en := eqNilVal i h
        go_wp2_with (go_at_call 56; refine (unwrapNam _ _ _ hx.2.1).mono ?_; rintro ev w1 ⟨rfl, rfl⟩)
        go_roundg i.depth
        case measure => have := HH.out.2.1; simp [Er.depth] at this; omega
        case rel => exact ⟨i, rfl, hx.2.2, h, HH.out.1, rfl, HH.out.2.2.1⟩

set_option maxRecDepth 8000 in
theorem errorsIs (e : Er) (c : Int) (w : World) (he : e.At w) :
    Calls Tryd.prog 19 #[e.val, .iface 22 (.int .i64 c)] w fun ev w' => ev = .returned (.bool (e.isIn c)) ∧ Below w.heap.size w w' := by
  have tT := callTypeOf
  have cT := callComparable
  have mR := isMethodComparable
  rcases Bool.eq_false_or_eq_true e.isNil with h | h
  · cases e <;> simp [Er.isNil] at h
    simp only [Er.val, Er.isIn]
    have hn := run_eql_iface_nil_left (P := Tryd.prog) w 22 (.int .i64 c) Tryd.underlying26
    go_enter Tryd.func19, Tryd.ntmps19
    go_wp2
    go_ret
    exact ⟨rfl, Below.refl _ _⟩
  · have eg := egNil e h; have en := eqNilVal e h
    have en2 : ∀ w : World, (binOp .eql 26 (.iface 22 (.int .i64 c)) .nilIface).run Tryd.prog w = .ok (.bool false) w := eqNilVal (.num c) rfl
    go_enter Tryd.func19, Tryd.ntmps19
    go_wp2_with (go_at_call 23; refine (is_any e c _ he h).mono ?_; rintro ev w1 ⟨rfl, hb1⟩)
    go_ret
    exact ⟨rfl, hb1⟩
end Go.Proofs.YtdnjfdkjjenmdaaDoor

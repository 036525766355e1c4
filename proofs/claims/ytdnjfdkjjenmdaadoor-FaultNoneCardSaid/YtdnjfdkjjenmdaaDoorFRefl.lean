/- reflectlite's functions at this program's types: what each call gives. -/
import Derived.Test.YtdnjfdkjjenmdaaDoorFErr
namespace Go.Proofs.YtdnjfdkjjenmdaaDoor
open Go.RowKit Go.Extern.Stop Go.Stop Go.Extern Go.Extern.Rtype
theorem callOf {K : FuncId} {fn : Func} {entry : Array Value → Sem Value} (h : ∀ (args : Array Value) (w : World), (callFunc K args).run Tryd.prog w = ((entry args).run Tryd.prog w).andThen fun v w' => .ok (Next.value v) w')
    {args : Array Value} {w w' : World} {v : Value} (e : (entry args).run Tryd.prog w = .ok v w') : (callFunc K args).run Tryd.prog w = .ok (.value v) w' := by
  rw [h, e]; rfl
theorem entryV : ∀ (args : Array Value) (w : World), (callFunc 27 args).run Tryd.prog w = (((fun args => ReflectliteValue.unpack (args.getD 0 (.tuple #[]))) args).run Tryd.prog w).andThen fun v w' => .ok (Next.value v) w' :=
  @run_callFunc_extern Tryd.prog 27 _ (fun args => ReflectliteValue.unpack (args.getD 0 (.tuple #[]))) Tryd.func27 (by kernel_rfl) (by kernel_rfl) (by kernel_rfl) (by kernel_rfl)
theorem entryTY : ∀ (args : Array Value) (w : World), (callFunc 28 args).run Tryd.prog w = (((ReflectliteValue.methodAny (ReflectliteValue.valueError "reflectlite.Value.Type" 0) (fun t _ _ _ => ReflectliteType.toType t)) args).run Tryd.prog w).andThen fun v w' => .ok (Next.value v) w' :=
  @run_callFunc_extern Tryd.prog 28 _ (ReflectliteValue.methodAny (ReflectliteValue.valueError "reflectlite.Value.Type" 0) (fun t _ _ _ => ReflectliteType.toType t)) Tryd.func28 (by kernel_rfl) (by kernel_rfl) (by kernel_rfl) (by kernel_rfl)
theorem entryNIL : ∀ (args : Array Value) (w : World), (callFunc 29 args).run Tryd.prog w = (((ReflectliteValue.method (ReflectliteValue.valueError "reflectlite.Value.IsNil" 0) ReflectliteValue.isNil) args).run Tryd.prog w).andThen fun v w' => .ok (Next.value v) w' :=
  @run_callFunc_extern Tryd.prog 29 _ (ReflectliteValue.method (ReflectliteValue.valueError "reflectlite.Value.IsNil" 0) ReflectliteValue.isNil) Tryd.func29 (by kernel_rfl) (by kernel_rfl) (by kernel_rfl) (by kernel_rfl)
theorem entryTOF : ∀ (args : Array Value) (w : World), (callFunc 22 args).run Tryd.prog w = (((ReflectliteType.typeOf) args).run Tryd.prog w).andThen fun v w' => .ok (Next.value v) w' :=
  @run_callFunc_extern Tryd.prog 22 _ (ReflectliteType.typeOf) Tryd.func22 (by kernel_rfl) (by kernel_rfl) (by kernel_rfl) (by kernel_rfl)
theorem entryEL : ∀ (args : Array Value) (w : World), (callFunc 31 args).run Tryd.prog w = (((ReflectliteValue.method (ReflectliteValue.valueError "reflectlite.Value.Elem" 0) ReflectliteValue.elem) args).run Tryd.prog w).andThen fun v w' => .ok (Next.value v) w' :=
  @run_callFunc_extern Tryd.prog 31 _ (ReflectliteValue.method (ReflectliteValue.valueError "reflectlite.Value.Elem" 0) ReflectliteValue.elem) Tryd.func31 (by kernel_rfl) (by kernel_rfl) (by kernel_rfl) (by kernel_rfl)
theorem entrySET : ∀ (args : Array Value) (w : World), (callFunc 32 args).run Tryd.prog w = (((ReflectliteValue.set) args).run Tryd.prog w).andThen fun v w' => .ok (Next.value v) w' :=
  @run_callFunc_extern Tryd.prog 32 _ (ReflectliteValue.set) Tryd.func32 (by kernel_rfl) (by kernel_rfl) (by kernel_rfl) (by kernel_rfl)
theorem entryKIND : ∀ (args : Array Value) (w : World), (callFunc 47 args).run Tryd.prog w = (((ReflectliteType.abiMethod fun t => do pure (.int .u8 (← Rtype.kind t))) args).run Tryd.prog w).andThen fun v w' => .ok (Next.value v) w' :=
  @run_callFunc_extern Tryd.prog 47 _ (ReflectliteType.abiMethod fun t => do pure (.int .u8 (← Rtype.kind t))) Tryd.func47 (by kernel_rfl) (by kernel_rfl) (by kernel_rfl) (by kernel_rfl)
theorem entryRELEM : ∀ (args : Array Value) (w : World), (callFunc 60 args).run Tryd.prog w = (((ReflectliteType.method ReflectliteType.elem) args).run Tryd.prog w).andThen fun v w' => .ok (Next.value v) w' :=
  @run_callFunc_extern Tryd.prog 60 _ (ReflectliteType.method ReflectliteType.elem) Tryd.func60 (by kernel_rfl) (by kernel_rfl) (by kernel_rfl) (by kernel_rfl)
theorem entryIMPL : ∀ (args : Array Value) (w : World), (callFunc 61 args).run Tryd.prog w = (((ReflectliteType.relation "Implements" ReflectliteType.implements_) args).run Tryd.prog w).andThen fun v w' => .ok (Next.value v) w' :=
  @run_callFunc_extern Tryd.prog 61 _ (ReflectliteType.relation "Implements" ReflectliteType.implements_) Tryd.func61 (by kernel_rfl) (by kernel_rfl) (by kernel_rfl) (by kernel_rfl)
theorem entryASG : ∀ (args : Array Value) (w : World), (callFunc 58 args).run Tryd.prog w = (((ReflectliteType.relation "AssignableTo" ReflectliteType.assignableTo) args).run Tryd.prog w).andThen fun v w' => .ok (Next.value v) w' :=
  @run_callFunc_extern Tryd.prog 58 _ (ReflectliteType.relation "AssignableTo" ReflectliteType.assignableTo) Tryd.func58 (by kernel_rfl) (by kernel_rfl) (by kernel_rfl) (by kernel_rfl)
theorem typeOfP (v : Value) (w : World) : (callFunc 22 #[.iface 52 v]).run Tryd.prog w = .ok (.value (.iface 66 (.agg #[.pointer (some ⟨1, 52, none⟩)]))) (w) :=
  callOf (fn := Tryd.f22) entryTOF (by kernel_rfl)
theorem noAsP (v : Value) (xT : TypeId) (w : World) : (Instr.typeAssert (.iface 52 v) xT 88 true).run Tryd.prog w = .ok (.tuple #[.nilIface, .bool false]) w := run_typeAssert_lacksB Tryd.underlying88 (by kernel_rfl) (by kernel_rfl) v xT w
theorem typeOfN (v : Value) (w : World) : (callFunc 22 #[.iface 54 v]).run Tryd.prog w = .ok (.value (.iface 66 (.agg #[.pointer (some ⟨1, 54, none⟩)]))) (w) :=
  callOf (fn := Tryd.f22) entryTOF (by kernel_rfl)
theorem noAsN (v : Value) (xT : TypeId) (w : World) : (Instr.typeAssert (.iface 54 v) xT 88 true).run Tryd.prog w = .ok (.tuple #[.nilIface, .bool false]) w := run_typeAssert_lacksB Tryd.underlying88 (by kernel_rfl) (by kernel_rfl) v xT w
theorem typeOfS (v : Value) (w : World) : (callFunc 22 #[.iface 45 v]).run Tryd.prog w = .ok (.value (.iface 66 (.agg #[.pointer (some ⟨1, 45, none⟩)]))) (w) :=
  callOf (fn := Tryd.f22) entryTOF (by kernel_rfl)
theorem noAsS (v : Value) (xT : TypeId) (w : World) : (Instr.typeAssert (.iface 45 v) xT 88 true).run Tryd.prog w = .ok (.tuple #[.nilIface, .bool false]) w := run_typeAssert_lacksB Tryd.underlying88 (by kernel_rfl) (by kernel_rfl) v xT w
theorem typeOfE (v : Value) (w : World) : (callFunc 22 #[.iface 22 v]).run Tryd.prog w = .ok (.value (.iface 66 (.agg #[.pointer (some ⟨1, 22, none⟩)]))) (w) :=
  callOf (fn := Tryd.f22) entryTOF (by kernel_rfl)
theorem noAsE (v : Value) (xT : TypeId) (w : World) : (Instr.typeAssert (.iface 22 v) xT 88 true).run Tryd.prog w = .ok (.tuple #[.nilIface, .bool false]) w := run_typeAssert_lacksB Tryd.underlying88 (by kernel_rfl) (by kernel_rfl) v xT w
theorem methodKind (h : Value) (w : World) : (Go.method 221 66 (.agg #[h]) "Kind").run Tryd.prog w = .ok (47, h) w := by kernel_rfl
theorem methodElem (h : Value) (w : World) : (Go.method 221 66 (.agg #[h]) "Elem").run Tryd.prog w = .ok (60, .agg #[h]) w := by kernel_rfl
theorem methodImplements (h : Value) (w : World) : (Go.method 221 66 (.agg #[h]) "Implements").run Tryd.prog w = .ok (61, .agg #[h]) w := by kernel_rfl
theorem methodAssignableTo (h : Value) (w : World) : (Go.method 221 66 (.agg #[h]) "AssignableTo").run Tryd.prog w = .ok (58, .agg #[h]) w := by kernel_rfl
theorem set_two (f : Value → Value → Sem Value) (g : Array Value → Sem Value) (v x : Value) : ReflectliteValue.set.match_3 (fun _ => Sem Value) #[v, x] f g = f v x := rfl
theorem method_one (f : Value → Sem Value) (g : Array Value → Sem Value) (v : Value) : ReflectliteValue.method.match_2 (fun _ => Sem Value) #[v] f g = f v := rfl
/-! ### target *fault.placed -/
theorem valueOfPT (t : Addr) (w : World) : (callFunc 27 #[.iface 63 (.pointer (some t))]).run Tryd.prog w = .ok (.value (.agg #[.pointer (some ⟨1, 63, none⟩), .pointer (some ⟨w.heap.size, 0, none⟩), .int .u64 150])) (w.alloc (.cells #[.pointer (some t)] 63)) :=
  callOf (fn := Tryd.f27) entryV (by kernel_rfl)
theorem typeP (a : Addr) (w : World) : (callFunc 28 #[.agg #[.pointer (some ⟨1, 63, none⟩), .pointer (some a), .int .u64 150]]).run Tryd.prog w = .ok (.value (.iface 66 (.agg #[.pointer (some ⟨1, 63, none⟩)]))) (w) :=
  callOf (fn := Tryd.f28) entryTY (by kernel_rfl)
theorem kindPT (w : World) : (callFunc 47 #[.pointer (some ⟨1, 63, none⟩)]).run Tryd.prog w = .ok (.value (.int .u8 22)) (w) :=
  callOf (fn := Tryd.f47) entryKIND (by kernel_rfl)
theorem kindPE (w : World) : (callFunc 47 #[.pointer (some ⟨1, 52, none⟩)]).run Tryd.prog w = .ok (.value (.int .u8 25)) (w) :=
  callOf (fn := Tryd.f47) entryKIND (by kernel_rfl)
theorem elemP (w : World) : (callFunc 60 #[.agg #[.pointer (some ⟨1, 63, none⟩)]]).run Tryd.prog w = .ok (.value (.iface 66 (.agg #[.pointer (some ⟨1, 52, none⟩)]))) (w) :=
  callOf (fn := Tryd.f60) entryRELEM (by kernel_rfl)
theorem implP (w : World) : (callFunc 61 #[.agg #[.pointer (some ⟨1, 52, none⟩)], .iface 66 (.agg #[.pointer (some ⟨1, 26, none⟩)])]).run Tryd.prog w = .ok (.value (.bool true)) (w) :=
  callOf (fn := Tryd.f61) entryIMPL (by kernel_rfl)
theorem asgPP (w : World) : (callFunc 58 #[.agg #[.pointer (some ⟨1, 52, none⟩)], .iface 66 (.agg #[.pointer (some ⟨1, 52, none⟩)])]).run Tryd.prog w = .ok (.value (.bool true)) (w) :=
  callOf (fn := Tryd.f58) entryASG (by kernel_rfl)
theorem asgPN (w : World) : (callFunc 58 #[.agg #[.pointer (some ⟨1, 54, none⟩)], .iface 66 (.agg #[.pointer (some ⟨1, 52, none⟩)])]).run Tryd.prog w = .ok (.value (.bool false)) (w) :=
  callOf (fn := Tryd.f58) entryASG (by kernel_rfl)
theorem asgPS (w : World) : (callFunc 58 #[.agg #[.pointer (some ⟨1, 45, none⟩)], .iface 66 (.agg #[.pointer (some ⟨1, 52, none⟩)])]).run Tryd.prog w = .ok (.value (.bool false)) (w) :=
  callOf (fn := Tryd.f58) entryASG (by kernel_rfl)
theorem asgPE (w : World) : (callFunc 58 #[.agg #[.pointer (some ⟨1, 22, none⟩)], .iface 66 (.agg #[.pointer (some ⟨1, 52, none⟩)])]).run Tryd.prog w = .ok (.value (.bool false)) (w) :=
  callOf (fn := Tryd.f58) entryASG (by kernel_rfl)
theorem partsPT (a : Addr) (w : World) : (ReflectliteValue.parts (.agg #[.pointer (some ⟨1, 63, none⟩), .pointer (some a), .int .u64 150])).run Tryd.prog w = .ok (some (63, a, 150)) w := by kernel_rfl
theorem partsPA (a : Addr) (w : World) : (ReflectliteValue.parts (.agg #[.pointer (some ⟨1, 52, none⟩), .pointer (some a), .int .u64 409])).run Tryd.prog w = .ok (some (52, a, 409)) w := by kernel_rfl
theorem partsPV (a : Addr) (w : World) : (ReflectliteValue.parts (.agg #[.pointer (some ⟨1, 52, none⟩), .pointer (some a), .int .u64 153])).run Tryd.prog w = .ok (some (52, a, 153)) w := by kernel_rfl
theorem elemOfP (w : World) : (Rtype.elem? 63).run Tryd.prog w = .ok (some 52) w := by kernel_rfl
theorem mkP (p : Addr) (w : World) : (ReflectliteValue.mk 52 p ReflectliteValue.flagAddr).run Tryd.prog w = .ok (.agg #[.pointer (some ⟨1, 52, none⟩), .pointer (some p), .int .u64 409]) w := by kernel_rfl
theorem directP (w : World) : (Rtype.directlyAssignable 52 52).run Tryd.prog w = .ok true w := by kernel_rfl
theorem isNilP (a p : Addr) (W : World) (ha : W.cell? a = some (.pointer (some p))) : (callFunc 29 #[.agg #[.pointer (some ⟨1, 63, none⟩), .pointer (some a), .int .u64 150]]).run Tryd.prog W = .ok (.value (.bool false)) W := by
  refine callOf (fn := Tryd.f29) entryNIL ?_
  delta ReflectliteValue.method
  rw [method_one]
  simp only [Sem.run_bind, partsPT, Result.andThen]
  simp [ReflectliteValue.isNil, loadVar, isAgg, underlying, Tryd.underlying63, ha, Result.andThen]
theorem elemVP (a p : Addr) (W : World) (ha : W.cell? a = some (.pointer (some p))) : (callFunc 31 #[.agg #[.pointer (some ⟨1, 63, none⟩), .pointer (some a), .int .u64 150]]).run Tryd.prog W = .ok (.value (.agg #[.pointer (some ⟨1, 52, none⟩), .pointer (some p), .int .u64 409])) W := by
  refine callOf (fn := Tryd.f31) entryEL ?_
  delta ReflectliteValue.method
  rw [method_one]
  simp only [Sem.run_bind, partsPT, Result.andThen]
  simp [ReflectliteValue.elem, loadVar, isAgg, underlying, Tryd.underlying63, ha, Result.andThen, elemOfP, mkP]
/-! ### target **fault.named -/
theorem valueOfNT (t : Addr) (w : World) : (callFunc 27 #[.iface 64 (.pointer (some t))]).run Tryd.prog w = .ok (.value (.agg #[.pointer (some ⟨1, 64, none⟩), .pointer (some ⟨w.heap.size, 0, none⟩), .int .u64 150])) (w.alloc (.cells #[.pointer (some t)] 64)) :=
  callOf (fn := Tryd.f27) entryV (by kernel_rfl)
theorem typeN (a : Addr) (w : World) : (callFunc 28 #[.agg #[.pointer (some ⟨1, 64, none⟩), .pointer (some a), .int .u64 150]]).run Tryd.prog w = .ok (.value (.iface 66 (.agg #[.pointer (some ⟨1, 64, none⟩)]))) (w) :=
  callOf (fn := Tryd.f28) entryTY (by kernel_rfl)
theorem kindNT (w : World) : (callFunc 47 #[.pointer (some ⟨1, 64, none⟩)]).run Tryd.prog w = .ok (.value (.int .u8 22)) (w) :=
  callOf (fn := Tryd.f47) entryKIND (by kernel_rfl)
theorem kindNE (w : World) : (callFunc 47 #[.pointer (some ⟨1, 54, none⟩)]).run Tryd.prog w = .ok (.value (.int .u8 22)) (w) :=
  callOf (fn := Tryd.f47) entryKIND (by kernel_rfl)
theorem elemN (w : World) : (callFunc 60 #[.agg #[.pointer (some ⟨1, 64, none⟩)]]).run Tryd.prog w = .ok (.value (.iface 66 (.agg #[.pointer (some ⟨1, 54, none⟩)]))) (w) :=
  callOf (fn := Tryd.f60) entryRELEM (by kernel_rfl)
theorem implN (w : World) : (callFunc 61 #[.agg #[.pointer (some ⟨1, 54, none⟩)], .iface 66 (.agg #[.pointer (some ⟨1, 26, none⟩)])]).run Tryd.prog w = .ok (.value (.bool true)) (w) :=
  callOf (fn := Tryd.f61) entryIMPL (by kernel_rfl)
theorem asgNP (w : World) : (callFunc 58 #[.agg #[.pointer (some ⟨1, 52, none⟩)], .iface 66 (.agg #[.pointer (some ⟨1, 54, none⟩)])]).run Tryd.prog w = .ok (.value (.bool false)) (w) :=
  callOf (fn := Tryd.f58) entryASG (by kernel_rfl)
theorem asgNN (w : World) : (callFunc 58 #[.agg #[.pointer (some ⟨1, 54, none⟩)], .iface 66 (.agg #[.pointer (some ⟨1, 54, none⟩)])]).run Tryd.prog w = .ok (.value (.bool true)) (w) :=
  callOf (fn := Tryd.f58) entryASG (by kernel_rfl)
theorem asgNS (w : World) : (callFunc 58 #[.agg #[.pointer (some ⟨1, 45, none⟩)], .iface 66 (.agg #[.pointer (some ⟨1, 54, none⟩)])]).run Tryd.prog w = .ok (.value (.bool false)) (w) :=
  callOf (fn := Tryd.f58) entryASG (by kernel_rfl)
theorem asgNE (w : World) : (callFunc 58 #[.agg #[.pointer (some ⟨1, 22, none⟩)], .iface 66 (.agg #[.pointer (some ⟨1, 54, none⟩)])]).run Tryd.prog w = .ok (.value (.bool false)) (w) :=
  callOf (fn := Tryd.f58) entryASG (by kernel_rfl)
theorem partsNT (a : Addr) (w : World) : (ReflectliteValue.parts (.agg #[.pointer (some ⟨1, 64, none⟩), .pointer (some a), .int .u64 150])).run Tryd.prog w = .ok (some (64, a, 150)) w := by kernel_rfl
theorem partsNA (a : Addr) (w : World) : (ReflectliteValue.parts (.agg #[.pointer (some ⟨1, 54, none⟩), .pointer (some a), .int .u64 406])).run Tryd.prog w = .ok (some (54, a, 406)) w := by kernel_rfl
theorem partsNV (a : Addr) (w : World) : (ReflectliteValue.parts (.agg #[.pointer (some ⟨1, 54, none⟩), .pointer (some a), .int .u64 150])).run Tryd.prog w = .ok (some (54, a, 150)) w := by kernel_rfl
theorem elemOfN (w : World) : (Rtype.elem? 64).run Tryd.prog w = .ok (some 54) w := by kernel_rfl
theorem mkN (p : Addr) (w : World) : (ReflectliteValue.mk 54 p ReflectliteValue.flagAddr).run Tryd.prog w = .ok (.agg #[.pointer (some ⟨1, 54, none⟩), .pointer (some p), .int .u64 406]) w := by kernel_rfl
theorem directN (w : World) : (Rtype.directlyAssignable 54 54).run Tryd.prog w = .ok true w := by kernel_rfl
theorem isNilN (a p : Addr) (W : World) (ha : W.cell? a = some (.pointer (some p))) : (callFunc 29 #[.agg #[.pointer (some ⟨1, 64, none⟩), .pointer (some a), .int .u64 150]]).run Tryd.prog W = .ok (.value (.bool false)) W := by
  refine callOf (fn := Tryd.f29) entryNIL ?_
  delta ReflectliteValue.method
  rw [method_one]
  simp only [Sem.run_bind, partsNT, Result.andThen]
  simp [ReflectliteValue.isNil, loadVar, isAgg, underlying, Tryd.underlying64, ha, Result.andThen]
theorem elemVN (a p : Addr) (W : World) (ha : W.cell? a = some (.pointer (some p))) : (callFunc 31 #[.agg #[.pointer (some ⟨1, 64, none⟩), .pointer (some a), .int .u64 150]]).run Tryd.prog W = .ok (.value (.agg #[.pointer (some ⟨1, 54, none⟩), .pointer (some p), .int .u64 406])) W := by
  refine callOf (fn := Tryd.f31) entryEL ?_
  delta ReflectliteValue.method
  rw [method_one]
  simp only [Sem.run_bind, partsNT, Result.andThen]
  simp [ReflectliteValue.elem, loadVar, isAgg, underlying, Tryd.underlying64, ha, Result.andThen, elemOfN, mkN]
theorem sizeP (w : World) : (sizeOf 52).run Tryd.prog w = .ok 2 w := by kernel_rfl
theorem sizeN (w : World) : (sizeOf 54).run Tryd.prog w = .ok 1 w := by kernel_rfl
theorem valueOfN (e : Addr) (w : World) : (callFunc 27 #[.iface 54 (.pointer (some e))]).run Tryd.prog w = .ok (.value (.agg #[.pointer (some ⟨1, 54, none⟩), .pointer (some ⟨w.heap.size, 0, none⟩), .int .u64 150])) (w.alloc (.cells #[.pointer (some e)] 54)) :=
  callOf (fn := Tryd.f27) entryV (by kernel_rfl)
theorem valueOfP (c a : Int) (w : World) : (callFunc 27 #[.iface 52 (.agg #[.int .i64 c, .int .i64 a])]).run Tryd.prog w = .ok (.value (.agg #[.pointer (some ⟨1, 52, none⟩), .pointer (some ⟨w.heap.size, 0, none⟩), .int .u64 153])) (w.alloc (.cells #[.int .i64 c, .int .i64 a] 52)) :=
  callOf (fn := Tryd.f27) entryV (by kernel_rfl)
theorem setN (ta b e : Addr) (old : Value) (W : World) (hb : W.cell? b = some (.pointer (some e))) (ht : W.cell? ta = some old) (hf : W.frozen? ta = false) :
    (callFunc 32 #[.agg #[.pointer (some ⟨1, 54, none⟩), .pointer (some ta), .int .u64 406], .agg #[.pointer (some ⟨1, 54, none⟩), .pointer (some b), .int .u64 150]]).run Tryd.prog W = .ok (.value (.tuple #[])) (W.setCell ta (.pointer (some e))) := by
  refine callOf (fn := Tryd.f32) entrySET ?_
  delta ReflectliteValue.set
  dsimp only
  rw [set_two]
  simp only [Sem.run_bind, partsNA, partsNV, Result.andThen]
  simp [ReflectliteValue.flagAddr, loadVar, isAgg, underlying, Tryd.underlying54, hb, Result.andThen, directN, storeVar, Value.cells, storeCells, Addr.add]
  rw [run_store Tryd.prog W ta _ _ (by rfl)]
  simp [ht, hf]
theorem setP (tb b : Nat) (c a : Int) (o1 o2 : Value) (W : World) (hb : W.cell? ⟨b, 0, none⟩ = some (.int .i64 c)) (hb2 : W.cell? ⟨b, 1, none⟩ = some (.int .i64 a))
    (ht : W.cell? ⟨tb, 0, none⟩ = some o1) (ht2 : W.cell? ⟨tb, 1, none⟩ = some o2) (hf : W.frozen? ⟨tb, 0, none⟩ = false) (hf2 : W.frozen? ⟨tb, 1, none⟩ = false) :
    (callFunc 32 #[.agg #[.pointer (some ⟨1, 52, none⟩), .pointer (some ⟨tb, 0, none⟩), .int .u64 409], .agg #[.pointer (some ⟨1, 52, none⟩), .pointer (some ⟨b, 0, none⟩), .int .u64 153]]).run Tryd.prog W = .ok (.value (.tuple #[])) ((W.setCell ⟨tb, 0, none⟩ (.int .i64 c)).setCell ⟨tb, 1, none⟩ (.int .i64 a)) := by
  refine callOf (fn := Tryd.f32) entrySET ?_
  delta ReflectliteValue.set
  dsimp only
  rw [set_two]
  simp only [Sem.run_bind, partsPA, partsPV, Result.andThen]
  simp [ReflectliteValue.flagAddr, loadVar, isAgg, underlying, Tryd.underlying52, loadCells, loadCellsFrom, Addr.add, hb, hb2, Result.andThen, directP, storeVar, Value.cells, storeCells, sizeP]
  rw [run_store Tryd.prog W _ _ _ (by rfl)]
  simp [ht, hf]
  rw [run_store Tryd.prog _ _ _ _ (by rfl)]
  rw [World.cell?_setCell_other _ _ _ _ (by simp), ht2]
  simp [hf2]
end Go.Proofs.YtdnjfdkjjenmdaaDoor

/- fault.Code and fault.At of a fault that the program makes itself: errors.As at its own type. -/
import Derived.Handy
import Derived.LaidEql
import Derived.Stop.Asserts
import Derived.RowKitTokens
import Derived.Laws.StructEq
import Derived.Defers
import Derived.Recover
import Derived.Test.YtkoabcncdjmoeaaGreatDoorMo
set_option linter.unusedSimpArgs false
set_option linter.unusedVariables false
set_option maxRecDepth 1000000
set_option maxHeartbeats 40000000
namespace Go.Proofs.YtkoabcncdjmoeaaGreatDoor
open Go.RowKit Go.Extern.Stop Go.Stop Go.Extern Go.Extern.Rtype
theorem heldPlaced : Tryz.prog.stoodInHeld 85 = false := by kernel_rfl
theorem fieldsPlaced : Tryz.prog.underlying 85 = some (.struct (Tryz.prog.fieldsOf 85)) := by kernel_rfl
theorem nePlaced (c a c' a' : Int) (w : World) : (binOp .neq 85 (.agg #[.int .i64 c,.int .i64 a]) (.agg #[.int .i64 c',.int .i64 a'])).run Tryz.prog w = .ok (.bool (!(c == c' && a == a'))) w := by
 rw [run_neq_struct,run_equalIn_agg (d := 9999) w _ _ _ fieldsPlaced heldPlaced]
 by_cases h1 : c = c' <;> by_cases h2 : a = a' <;> simp [Program.fieldsOf,Tryz.underlying85,go_sem,Tryz.underlying31,Tryz.underlying3,h1,h2]
theorem eqNilV (v : Value) (w : World) : (binOp .eql 28 (.iface 85 v) .nilIface).run Tryz.prog w = .ok (.bool false) w := by
 simp [go_sem,Tryz.underlying28]
theorem egNilV (v : Value) (op : BinOp) (x y : Operand) (w : World) : (eqGuard op 28 x y (.iface 85 v) .nilIface).run Tryz.prog w = .ok () w := by
 cases op <;> simp [go_sem,Tryz.underlying28]
theorem callOf {K : FuncId} {fn : Func} {entry : Array Value -> Sem Value} (h : ∀ (args : Array Value) (w : World),(callFunc K args).run Tryz.prog w = ((entry args).run Tryz.prog w).andThen fun v w' => .ok (Next.value v) w')
  {args : Array Value} {w w' : World} {v : Value} (e : (entry args).run Tryz.prog w = .ok v w') : (callFunc K args).run Tryz.prog w = .ok (.value v) w' := by
 rw [h,e];rfl
theorem entryV : ∀ (args : Array Value) (w : World),(callFunc 93 args).run Tryz.prog w = (((fun args => ReflectliteValue.unpack (args.getD 0 (.tuple #[]))) args).run Tryz.prog w).andThen fun v w' => .ok (Next.value v) w' :=
 @run_callFunc_extern Tryz.prog 93 _ (fun args => ReflectliteValue.unpack (args.getD 0 (.tuple #[]))) Tryz.func93 (by kernel_rfl) (by kernel_rfl) (by kernel_rfl) (by kernel_rfl)
theorem entryTY : ∀ (args : Array Value) (w : World), (callFunc 94 args).run Tryz.prog w = (((ReflectliteValue.methodAny (ReflectliteValue.valueError "reflectlite.Value.Type" 0) (fun t _ _ _ => ReflectliteType.toType t)) args).run Tryz.prog w).andThen fun v w' => .ok (Next.value v) w' :=
 @run_callFunc_extern Tryz.prog 94 _ (ReflectliteValue.methodAny (ReflectliteValue.valueError "reflectlite.Value.Type" 0) (fun t _ _ _ => ReflectliteType.toType t)) Tryz.func94 (by kernel_rfl) (by kernel_rfl) (by kernel_rfl) (by kernel_rfl)
theorem entryNIL : ∀ (args : Array Value) (w : World), (callFunc 95 args).run Tryz.prog w = (((ReflectliteValue.method (ReflectliteValue.valueError "reflectlite.Value.IsNil" 0) ReflectliteValue.isNil) args).run Tryz.prog w).andThen fun v w' => .ok (Next.value v) w' :=
 @run_callFunc_extern Tryz.prog 95 _ (ReflectliteValue.method (ReflectliteValue.valueError "reflectlite.Value.IsNil" 0) ReflectliteValue.isNil) Tryz.func95 (by kernel_rfl) (by kernel_rfl) (by kernel_rfl) (by kernel_rfl)
theorem entryTOF : ∀ (args : Array Value) (w : World),(callFunc 119 args).run Tryz.prog w = (((ReflectliteType.typeOf) args).run Tryz.prog w).andThen fun v w' => .ok (Next.value v) w' :=
 @run_callFunc_extern Tryz.prog 119 _ (ReflectliteType.typeOf) Tryz.func119 (by kernel_rfl) (by kernel_rfl) (by kernel_rfl) (by kernel_rfl)
theorem entryEL : ∀ (args : Array Value) (w : World), (callFunc 120 args).run Tryz.prog w = (((ReflectliteValue.method (ReflectliteValue.valueError "reflectlite.Value.Elem" 0) ReflectliteValue.elem) args).run Tryz.prog w).andThen fun v w' => .ok (Next.value v) w' :=
 @run_callFunc_extern Tryz.prog 120 _ (ReflectliteValue.method (ReflectliteValue.valueError "reflectlite.Value.Elem" 0) ReflectliteValue.elem) Tryz.func120 (by kernel_rfl) (by kernel_rfl) (by kernel_rfl) (by kernel_rfl)
theorem entrySET : ∀ (args : Array Value) (w : World),(callFunc 121 args).run Tryz.prog w = (((ReflectliteValue.set) args).run Tryz.prog w).andThen fun v w' => .ok (Next.value v) w' :=
 @run_callFunc_extern Tryz.prog 121 _ (ReflectliteValue.set) Tryz.func121 (by kernel_rfl) (by kernel_rfl) (by kernel_rfl) (by kernel_rfl)
theorem entryKIND : ∀ (args : Array Value) (w : World),(callFunc 180 args).run Tryz.prog w = (((ReflectliteType.abiMethod fun t => do pure (.int .u8 (← Rtype.kind t))) args).run Tryz.prog w).andThen fun v w' => .ok (Next.value v) w' :=
 @run_callFunc_extern Tryz.prog 180 _ (ReflectliteType.abiMethod fun t => do pure (.int .u8 (← Rtype.kind t))) Tryz.func180 (by kernel_rfl) (by kernel_rfl) (by kernel_rfl) (by kernel_rfl)
theorem entryRELEM : ∀ (args : Array Value) (w : World),(callFunc 193 args).run Tryz.prog w = (((ReflectliteType.method ReflectliteType.elem) args).run Tryz.prog w).andThen fun v w' => .ok (Next.value v) w' :=
 @run_callFunc_extern Tryz.prog 193 _ (ReflectliteType.method ReflectliteType.elem) Tryz.func193 (by kernel_rfl) (by kernel_rfl) (by kernel_rfl) (by kernel_rfl)
theorem entryIMPL : ∀ (args : Array Value) (w : World), (callFunc 194 args).run Tryz.prog w = (((ReflectliteType.relation "Implements" ReflectliteType.implements_) args).run Tryz.prog w).andThen fun v w' => .ok (Next.value v) w' :=
 @run_callFunc_extern Tryz.prog 194 _ (ReflectliteType.relation "Implements" ReflectliteType.implements_) Tryz.func194 (by kernel_rfl) (by kernel_rfl) (by kernel_rfl) (by kernel_rfl)
theorem entryASG : ∀ (args : Array Value) (w : World), (callFunc 191 args).run Tryz.prog w = (((ReflectliteType.relation "AssignableTo" ReflectliteType.assignableTo) args).run Tryz.prog w).andThen fun v w' => .ok (Next.value v) w' :=
 @run_callFunc_extern Tryz.prog 191 _ (ReflectliteType.relation "AssignableTo" ReflectliteType.assignableTo) Tryz.func191 (by kernel_rfl) (by kernel_rfl) (by kernel_rfl) (by kernel_rfl)
theorem typeOfP (v : Value) (w : World) : (callFunc 119 #[.iface 85 v]).run Tryz.prog w = .ok (.value (.iface 146 (.agg #[.pointer (some ⟨4,85,none⟩)]))) (w) :=
 callOf (fn := Tryz.f119) entryTOF (by kernel_rfl)
theorem methodKind (h : Value) (w : World) : (Go.method 332 146 (.agg #[h]) "Kind").run Tryz.prog w = .ok (180, h) w := by kernel_rfl
theorem methodElem (h : Value) (w : World) : (Go.method 332 146 (.agg #[h]) "Elem").run Tryz.prog w = .ok (193, .agg #[h]) w := by kernel_rfl
theorem methodImplements (h : Value) (w : World) : (Go.method 332 146 (.agg #[h]) "Implements").run Tryz.prog w = .ok (194, .agg #[h]) w := by kernel_rfl
theorem methodAssignableTo (h : Value) (w : World) : (Go.method 332 146 (.agg #[h]) "AssignableTo").run Tryz.prog w = .ok (191, .agg #[h]) w := by kernel_rfl
theorem set_two (f : Value -> Value -> Sem Value) (g : Array Value -> Sem Value) (v x : Value) : ReflectliteValue.set.match_3 (fun _ => Sem Value) #[v,x] f g = f v x := rfl
theorem method_one (f : Value -> Sem Value) (g : Array Value -> Sem Value) (v : Value) : ReflectliteValue.method.match_2 (fun _ => Sem Value) #[v] f g = f v := rfl
theorem valueOfPT (t : Addr) (w : World) : (callFunc 93 #[.iface 104 (.pointer (some t))]).run Tryz.prog w = .ok (.value (.agg #[.pointer (some ⟨4,104,none⟩),.pointer (some ⟨w.heap.size,0,none⟩),.int .u64 150])) (w.alloc (.cells #[.pointer (some t)] 104)) :=
 callOf (fn := Tryz.f93) entryV (by kernel_rfl)
theorem typeP (a : Addr) (w : World) : (callFunc 94 #[.agg #[.pointer (some ⟨4,104,none⟩),.pointer (some a),.int .u64 150]]).run Tryz.prog w = .ok (.value (.iface 146 (.agg #[.pointer (some ⟨4,104,none⟩)]))) (w) :=
 callOf (fn := Tryz.f94) entryTY (by kernel_rfl)
theorem kindPT (w : World) : (callFunc 180 #[.pointer (some ⟨4,104,none⟩)]).run Tryz.prog w = .ok (.value (.int .u8 22)) (w) :=
 callOf (fn := Tryz.f180) entryKIND (by kernel_rfl)
theorem kindPE (w : World) : (callFunc 180 #[.pointer (some ⟨4,85,none⟩)]).run Tryz.prog w = .ok (.value (.int .u8 25)) (w) :=
 callOf (fn := Tryz.f180) entryKIND (by kernel_rfl)
theorem elemP (w : World) : (callFunc 193 #[.agg #[.pointer (some ⟨4,104,none⟩)]]).run Tryz.prog w = .ok (.value (.iface 146 (.agg #[.pointer (some ⟨4,85,none⟩)]))) (w) :=
 callOf (fn := Tryz.f193) entryRELEM (by kernel_rfl)
theorem implP (w : World) : (callFunc 194 #[.agg #[.pointer (some ⟨4,85,none⟩)],.iface 146 (.agg #[.pointer (some ⟨4,28,none⟩)])]).run Tryz.prog w = .ok (.value (.bool true)) (w) :=
 callOf (fn := Tryz.f194) entryIMPL (by kernel_rfl)
theorem asgPP (w : World) : (callFunc 191 #[.agg #[.pointer (some ⟨4,85,none⟩)],.iface 146 (.agg #[.pointer (some ⟨4,85,none⟩)])]).run Tryz.prog w = .ok (.value (.bool true)) (w) :=
 callOf (fn := Tryz.f191) entryASG (by kernel_rfl)
theorem partsPT (a : Addr) (w : World) : (ReflectliteValue.parts (.agg #[.pointer (some ⟨4,104,none⟩),.pointer (some a),.int .u64 150])).run Tryz.prog w = .ok (some (104,a,150)) w := by kernel_rfl
theorem partsPA (a : Addr) (w : World) : (ReflectliteValue.parts (.agg #[.pointer (some ⟨4,85,none⟩),.pointer (some a),.int .u64 409])).run Tryz.prog w = .ok (some (85,a,409)) w := by kernel_rfl
theorem partsPV (a : Addr) (w : World) : (ReflectliteValue.parts (.agg #[.pointer (some ⟨4,85,none⟩),.pointer (some a),.int .u64 153])).run Tryz.prog w = .ok (some (85,a,153)) w := by kernel_rfl
theorem elemOfP (w : World) : (Rtype.elem? 104).run Tryz.prog w = .ok (some 85) w := by kernel_rfl
theorem mkP (p : Addr) (w : World) : (ReflectliteValue.mk 85 p ReflectliteValue.flagAddr).run Tryz.prog w = .ok (.agg #[.pointer (some ⟨4,85,none⟩),.pointer (some p),.int .u64 409]) w := by kernel_rfl
theorem directP (w : World) : (Rtype.directlyAssignable 85 85).run Tryz.prog w = .ok true w := by kernel_rfl
theorem isNilP (a p : Addr) (W : World) (ha : W.cell? a = some (.pointer (some p))) : (callFunc 95 #[.agg #[.pointer (some ⟨4,104,none⟩),.pointer (some a),.int .u64 150]]).run Tryz.prog W = .ok (.value (.bool false)) W := by
 refine callOf (fn := Tryz.f95) entryNIL ?_
 delta ReflectliteValue.method
 rw [method_one]
 simp only [Sem.run_bind,partsPT,Result.andThen]
 simp [ReflectliteValue.isNil,loadVar,isAgg,underlying,Tryz.underlying104,ha,Result.andThen]
theorem elemVP (a p : Addr) (W : World) (ha : W.cell? a = some (.pointer (some p))) : (callFunc 120 #[.agg #[.pointer (some ⟨4,104,none⟩),.pointer (some a),.int .u64 150]]).run Tryz.prog W = .ok (.value (.agg #[.pointer (some ⟨4,85,none⟩),.pointer (some p),.int .u64 409])) W := by
 refine callOf (fn := Tryz.f120) entryEL ?_
 delta ReflectliteValue.method
 rw [method_one]
 simp only [Sem.run_bind,partsPT,Result.andThen]
 simp [ReflectliteValue.elem,loadVar,isAgg,underlying,Tryz.underlying104,ha,Result.andThen,elemOfP,mkP]
theorem sizeP (w : World) : (sizeOf 85).run Tryz.prog w = .ok 2 w := by kernel_rfl
theorem valueOfP (c a : Int) (w : World) : (callFunc 93 #[.iface 85 (.agg #[.int .i64 c,.int .i64 a])]).run Tryz.prog w = .ok (.value (.agg #[.pointer (some ⟨4,85,none⟩),.pointer (some ⟨w.heap.size,0,none⟩),.int .u64 153])) (w.alloc (.cells #[.int .i64 c,.int .i64 a] 85)) :=
 callOf (fn := Tryz.f93) entryV (by kernel_rfl)
theorem setP (tb b : Nat) (c a : Int) (o1 o2 : Value) (W : World) (hb : W.cell? ⟨b,0,none⟩ = some (.int .i64 c)) (hb2 : W.cell? ⟨b,1,none⟩ = some (.int .i64 a))
  (ht : W.cell? ⟨tb,0,none⟩ = some o1) (ht2 : W.cell? ⟨tb,1,none⟩ = some o2) (hf : W.frozen? ⟨tb,0,none⟩ = false) (hf2 : W.frozen? ⟨tb,1,none⟩ = false) :
  (callFunc 121 #[.agg #[.pointer (some ⟨4,85,none⟩),.pointer (some ⟨tb,0,none⟩),.int .u64 409],.agg #[.pointer (some ⟨4,85,none⟩),.pointer (some ⟨b,0,none⟩),.int .u64 153]]).run Tryz.prog W = .ok (.value (.tuple #[])) ((W.setCell ⟨tb,0,none⟩ (.int .i64 c)).setCell ⟨tb,1,none⟩ (.int .i64 a)) := by
 refine callOf (fn := Tryz.f121) entrySET ?_
 delta ReflectliteValue.set
 dsimp only
 rw [set_two]
 simp only [Sem.run_bind,partsPA,partsPV,Result.andThen]
 simp [ReflectliteValue.flagAddr,loadVar,isAgg,underlying,Tryz.underlying85,loadCells,loadCellsFrom,Addr.add,hb,hb2,Result.andThen,directP,storeVar,Value.cells,storeCells,sizeP]
 rw [run_store Tryz.prog W _ _ _ (by rfl)]
 simp [ht,hf]
 rw [run_store Tryz.prog _ _ _ _ (by rfl)]
 rw [World.cell?_setCell_other _ _ _ _ (by simp),ht2]
 simp [hf2]
theorem eqgPlaced : Tryz.prog.eqGuardType Tryz.prog.depth 85 = false := by kernel_rfl
def GotP (tb : Nat) (c a : Int) (w' : World) : Prop := w'.cell? ⟨tb,0,none⟩ = some (.int .i64 c) ∧ w'.cell? ⟨tb,1,none⟩ = some (.int .i64 a) ∧ w'.frozen? ⟨tb,0,none⟩ = false ∧ w'.frozen? ⟨tb,1,none⟩ = false
def FreshP (tb : Nat) (w : World) : Prop := w.cell? ⟨tb,0,none⟩ = some (.int .i64 0) ∧ w.cell? ⟨tb,1,none⟩ = some (.int .i64 0) ∧ w.frozen? ⟨tb,0,none⟩ = false ∧ w.frozen? ⟨tb,1,none⟩ = false
theorem FreshP.keep {tb : Nat} {w w' : World} (h : FreshP tb w) (hb : Below w.heap.size w w') : FreshP tb w' := by
 have hlt : tb < w.heap.size := World.block_lt_of_cell? w _ h.1
 exact ⟨below_cellAt hb h.1,below_cellAt hb h.2.1,(hb.frozen hlt).trans h.2.2.1,(hb.frozen hlt).trans h.2.2.2⟩
theorem as_P (c a : Int) (n tb vb : Nat) (w : World) (hv : w.cell? ⟨vb,0,none⟩ = some (.pointer (some ⟨tb,0,none⟩))) (hfr : FreshP tb w) (hn : n ≤ tb) (hnw : n ≤ w.heap.size) :
  Calls Tryz.prog 96 #[errV c a,.iface 104 (.pointer (some ⟨tb,0,none⟩)),.agg #[.pointer (some ⟨4,104,none⟩),.pointer (some ⟨vb,0,none⟩),.int .u64 150],.iface 146 (.agg #[.pointer (some ⟨4,85,none⟩)])] w fun ev w' => ev = .returned (.bool true) ∧ Below n w w' ∧ GotP tb c a w' := by
 have q0 := typeOfP
 have q8 := asgPP
 have q12 := methodAssignableTo
 have q21 := elemVP
 have q22 := valueOfP
 have H := Asd.mk (And.intro hv (And.intro hfr (And.intro hn hnw)))
 clear hv hfr hn hnw
 unfold errV
 go_enter Tryz.func96,Tryz.ntmps96
 go_wp2
 have B1 : Asd (Below w.heap.size w (w.alloc (.cells #[.pointer (some ⟨4,104,none⟩),.pointer (some ⟨vb,0,none⟩),.int .u64 150] 122))) := ⟨(Below.refl _ _).alloc (Nat.le_refl _) _⟩
 have C : Asd (∀ i v,(#[.pointer (some ⟨4,104,none⟩),Value.pointer (some ⟨vb,0,none⟩),.int .u64 150] : Array Value)[i]? = some v -> (w.alloc (.cells #[.pointer (some ⟨4,104,none⟩),.pointer (some ⟨vb,0,none⟩),.int .u64 150] 122)).cell? ⟨w.heap.size,i,none⟩ = some v) := ⟨fun i v h => cellNew w _ _ i v h⟩
 generalize hw1 : w.alloc (.cells #[.pointer (some ⟨4,104,none⟩),.pointer (some ⟨vb,0,none⟩),.int .u64 150] 122) = w1 at B1 C
 clear hw1
 go_loopg [0] 1 (fun k p wr => p = .iface 85 (.agg #[.int .i64 c,.int .i64 a]) ∧ Below w1.heap.size w1 wr)
 case atStart => exact ⟨rfl,Below.refl _ _⟩
 case round =>
  obtain ⟨rfl,hb⟩ := hrel
  have HH := Asd.mk (And.intro hb (B1.out.trans (hb.mono B1.out.size)))
  clear hb
  have hc0 := below_cellAt HH.out.1 (C.out 0 _ rfl)
  have hc1 := below_cellAt HH.out.1 (C.out 1 _ rfl)
  have hc2 := below_cellAt HH.out.1 (C.out 2 _ rfl)
  have hvb := below_cellAt HH.out.2 H.out.1
  have F := H.out.2.1.keep HH.out.2
  have hlt : tb < wr.heap.size := World.block_lt_of_cell? wr _ F.1
  have hst := setP tb wr.heap.size c a (.int .i64 0) (.int .i64 0) (wr.alloc (.cells #[.int .i64 c,.int .i64 a] 85)) (cellNew _ _ _ 0 _ rfl) (cellNew _ _ _ 1 _ rfl)
   (by rw [World.cell?_alloc_lt _ _ _ hlt];exact F.1) (by rw [World.cell?_alloc_lt _ _ _ hlt];exact F.2.1) (by rw [World.frozen?_alloc_old _ _ _ (Nat.ne_of_lt hlt)];exact F.2.2.1) (by rw [World.frozen?_alloc_old _ _ _ (Nat.ne_of_lt hlt)];exact F.2.2.2)
  have hnew : FreshP tb (wr.alloc (.cells #[.int .i64 c,.int .i64 a] 85)) := F.keep ((Below.refl _ _).alloc (Nat.le_refl _) _)
  have FF := Asd.mk (And.intro hnew (And.intro F hlt))
  clear hnew F hlt
  go_wp2
  go_ret
  refine ⟨rfl,?_,?_⟩
  ·exact (((HH.out.2.mono H.out.2.2.2).alloc (Nat.le_trans H.out.2.2.2 HH.out.2.size) _).setCell H.out.2.2.1 _).setCell H.out.2.2.1 _
  ·refine ⟨?_,?_,?_,?_⟩
   ·rw [World.cell?_setCell_other _ _ _ _ (by simp),World.cell?_setCell_same _ _ _ FF.out.1.1]
   ·rw [World.cell?_setCell_same (u := .int .i64 0) _ _ _ (by rw [World.cell?_setCell_other _ _ _ _ (by simp)];exact FF.out.1.2.1)]
   ·simp only [World.frozen?_setCell];exact FF.out.1.2.2.1
   ·simp only [World.frozen?_setCell];exact FF.out.1.2.2.2
theorem errorsAsP (c a : Int) (tb : Nat) (w : World) (hg : w.cell? ⟨0,0,none⟩ = some (.iface 146 (.agg #[.pointer (some ⟨4,28,none⟩)]))) (hfr : FreshP tb w) :
  Calls Tryz.prog 67 #[errV c a,.iface 104 (.pointer (some ⟨tb,0,none⟩))] w fun ev w' => ev = .returned (.bool true) ∧ Below tb w w' ∧ GotP tb c a w' := by
 have eg := egNilV (.agg #[.int .i64 c,.int .i64 a]);have en := eqNilV (.agg #[.int .i64 c,.int .i64 a])
 have q1 := valueOfPT
 have q2 := typeP
 have q3 := methodKind
 have q4 := kindPT
 have q5 := kindPE
 have q6 := methodElem
 have q7 := elemP
 have q8 := methodImplements
 have q9 := implP
 have q10 := isNilP
 have hlt0 : (0 : Nat) < w.heap.size := World.block_lt_of_cell? w _ hg
 have htb : tb < w.heap.size := World.block_lt_of_cell? w _ hfr.1
 have B2 : Below w.heap.size w ((w.alloc (.cells #[.pointer (some ⟨tb,0,none⟩)] 104)).alloc (.cells #[.pointer (some ⟨4,104,none⟩),.pointer (some ⟨w.heap.size,0,none⟩),.int .u64 150] 122)) := ((Below.refl _ _).alloc (Nat.le_refl _) _).alloc (by simp) _
 have hg2 := below_cellAt B2 hg
 have hvb : ((w.alloc (.cells #[.pointer (some ⟨tb,0,none⟩)] 104)).alloc (.cells #[.pointer (some ⟨4,104,none⟩),.pointer (some ⟨w.heap.size,0,none⟩),.int .u64 150] 122)).cell? ⟨w.heap.size,0,none⟩ = some (.pointer (some ⟨tb,0,none⟩)) := by
  rw [World.cell?_alloc_lt _ _ _ (by simp)];exact cellNew _ _ _ 0 _ rfl
 have H := Asd.mk (And.intro hfr (And.intro htb B2))
 clear hfr B2 htb
 unfold errV
 go_enter Tryz.func67,Tryz.ntmps67
 go_wp2_with (go_at_call 96;refine (as_P c a tb tb w.heap.size _ hvb (H.out.1.keep H.out.2.2) (Nat.le_refl _) (Nat.le_trans (Nat.le_of_lt H.out.2.1) H.out.2.2.size)).mono ?_;rintro ev w3 ⟨rfl,hb3,hgot⟩)
 go_ret
 exact ⟨rfl,(H.out.2.2.mono (Nat.le_of_lt H.out.2.1)).trans hb3,hgot⟩
theorem idleP (w : World) : CallsD Tryz.prog 66 #[] .returning w fun e u' w' => e = .returned (.tuple #[]) ∧ u' = .returning ∧ w' = w := by
 refine callsD_of_wpS Tryz.func66 rfl fun c₀ cs hu => ?_
 apply wpS_region
 simp [wpOpsS,go_sem,recoverD,hu,Tryz.ntmps66]
 cases c₀
 simp_all [bodyPostS,results,Tryz.results66]
theorem find_P (c a : Int) (w : World) (hg : w.cell? ⟨0,0,none⟩ = some (.iface 146 (.agg #[.pointer (some ⟨4,28,none⟩)]))) :
  Calls Tryz.prog 43 #[errV c a] w fun ev w' => ev = .returned (.agg #[.int .i64 c,.int .i64 a]) ∧ Below w.heap.size w w' := by
 have hB : Below w.heap.size w (w.alloc (.cells #[.int .i64 0,.int .i64 0] 85)) := (Below.refl _ _).alloc (Nat.le_refl _) _
 have hfr : FreshP w.heap.size (w.alloc (.cells #[.int .i64 0,.int .i64 0] 85)) := ⟨cellNew _ _ _ 0 _ rfl,cellNew _ _ _ 1 _ rfl,by simp [go_sem],by simp [go_sem]⟩
 have H := Asd.mk (And.intro hB (And.intro hfr hg))
 clear hB hfr hg
 go_enter_defers Tryz.func43,Tryz.ntmps43
 go_wp2_with fail
 refine (errorsAsP c a w.heap.size _ (below_cellAt H.out.1 H.out.2.2) H.out.2.1).mono ?_
 rintro ev w3 ⟨rfl,hb3,g0,g1,g2,g3⟩
 go_wp2_with fail
 have B4 : Below w.heap.size w ((w3.setCell ⟨w.heap.size,0,none⟩ (.int .i64 c)).setCell ⟨w.heap.size,1,none⟩ (.int .i64 a)) := ((H.out.1.trans hb3).setCell (Nat.le_refl _) _).setCell (Nat.le_refl _) _
 have k0 : ((w3.setCell ⟨w.heap.size,0,none⟩ (.int .i64 c)).setCell ⟨w.heap.size,1,none⟩ (.int .i64 a)).cell? ⟨w.heap.size,0,none⟩ = some (.int .i64 c) := by
  rw [World.cell?_setCell_other _ _ _ _ (by simp),World.cell?_setCell_same _ _ _ g0]
 have k1 : ((w3.setCell ⟨w.heap.size,0,none⟩ (.int .i64 c)).setCell ⟨w.heap.size,1,none⟩ (.int .i64 a)).cell? ⟨w.heap.size,1,none⟩ = some (.int .i64 a) := by
  rw [World.cell?_setCell_same (u := .int .i64 a) _ _ _ (by rw [World.cell?_setCell_other _ _ _ _ (by simp)];exact g1)]
 generalize ((w3.setCell ⟨w.heap.size,0,none⟩ (.int .i64 c)).setCell ⟨w.heap.size,1,none⟩ (.int .i64 a)) = w4 at B4 k0 k1 ⊢
 refine leaves_cons (f := 66) (args := #[]) (by simp) (by simp [go_sem]) ?_
 refine (idleP _).mono ?_
 rintro e u' w'' ⟨rfl,rfl,rfl⟩
 simp [Leaves,settle,results,Tryz.results43,go_sem,k0,k1,B4]
theorem code_one (c a : Int) (w : World) (hc : (c == 0) = false) (hg : w.cell? ⟨0,0,none⟩ = some (.iface 146 (.agg #[.pointer (some ⟨4,28,none⟩)]))) :
  Calls Tryz.prog 22 #[errV c a] w fun ev w' => ev = .returned (.int .i64 c) ∧ Below w.heap.size w w' := by
 have eg := egNilV (.agg #[.int .i64 c,.int .i64 a]);have en := eqNilV (.agg #[.int .i64 c,.int .i64 a])
 have np := nePlaced
 have ng := eqgPlaced
 have hz : (c == 0 && a == 0) = false := by rw [hc];rfl
 have X := Asd.mk (find_P c a w hg)
 clear hg
 unfold errV at X ⊢
 go_enter Tryz.func22,Tryz.ntmps22
 go_wp2_with fail
 refine X.out.mono ?_
 rintro ev w1 ⟨rfl,hb1⟩
 have B := Asd.mk hb1
 clear hb1
 go_wp2_with fail
 go_ret
 exact ⟨rfl,B.out.alloc B.out.size _⟩
theorem at_one (c a : Int) (w : World) (hc : (c == 0) = false) (hg : w.cell? ⟨0,0,none⟩ = some (.iface 146 (.agg #[.pointer (some ⟨4,28,none⟩)]))) :
  Calls Tryz.prog 23 #[errV c a] w fun ev w' => ev = .returned (.int .i64 a) ∧ Below w.heap.size w w' := by
 have np := nePlaced
 have ng := eqgPlaced
 have hz : (c == 0 && a == 0) = false := by rw [hc];rfl
 have X := Asd.mk (find_P c a w hg)
 clear hg
 unfold errV at X ⊢
 go_enter Tryz.func23,Tryz.ntmps23
 go_wp2_with fail
 refine X.out.mono ?_
 rintro ev w1 ⟨rfl,hb1⟩
 have B := Asd.mk hb1
 clear hb1
 go_wp2_with fail
 go_ret
 exact ⟨rfl,B.out.alloc B.out.size _⟩
end Go.Proofs.YtkoabcncdjmoeaaGreatDoor

/- The evaluator over data (see NOTES, 'Pv'): part Pv8. -/
import Derived.Test.YtclhomkgphdagaaPv7
import Derived.IntWalk
namespace Go.Proofs.Ytclhomkgphdagaa.Pv
open Go Go.RowKit
/-! ### Data without boxes and logs -/
mutual
def pureD : D → Option D
  | .any => none
  | .raw v => some (.raw v)
  | .agg ds => (pureL ds).map D.agg
  | .tup ds => (pureL ds).map D.tup
  | .sl _ sz ds => (pureL ds).map (D.sl none sz)
  | .bx _ _ => none
  | .ms _ _ _ => none
  | .sln n => some (.sln n)
  | .pe d off => (pureD d).map (D.pe · off)
  | .fn f a b => match pureL a, pureL b with | some a', some b' => some (.fn f a' b') | _, _ => none
  | .ifc t d => (pureD d).map (D.ifc t)
def pureL : List D → Option (List D)
  | [] => some []
  | d :: ds => match pureD d, pureL ds with | some d', some ds' => some (d' :: ds') | _, _ => none
end
section
variable {P : Program}
theorem pureL_len : ∀ {ds es : List D}, pureL ds = some es → es.length = ds.length
  | [], _, e => by simp only [pureL, Option.some.injEq] at e; subst e; rfl
  | d :: ds, es, e => by
    simp only [pureL] at e
    split at e
    · rename_i d' ds' h1 h2
      cases e
      simp [pureL_len h2]
    · cases e
mutual
theorem pureD_rd {C C' : Cx} {w : World} (hS : ∀ b o, C.S b o → C'.S b o) : ∀ (d : D) {d' : D} {v : Value}, pureD d = some d' → Rd C w d v → Rd C' w d' v
  | .any, _, _, e, _ => by cases e
  | .raw _, _, _, e, h => by cases e; exact h
  | .agg ds, _, _, e, ⟨vs, hv, r⟩ => by
    simp only [pureD, Option.map_eq_some_iff] at e
    obtain ⟨es, h1, rfl⟩ := e
    exact ⟨vs, hv, pureL_rd hS ds h1 r⟩
  | .tup ds, _, _, e, ⟨vs, hv, r⟩ => by
    simp only [pureD, Option.map_eq_some_iff] at e
    obtain ⟨es, h1, rfl⟩ := e
    exact ⟨vs, hv, pureL_rd hS ds h1 r⟩
  | .sl tag sz ds, _, _, e, ⟨h1, h2, _⟩ => by
    simp only [pureD, Option.map_eq_some_iff] at e
    obtain ⟨es, h3, rfl⟩ := e
    have hl := pureL_len h3
    refine ⟨by rw [hl]; exact h1, fun hp => ?_, fun id e => by cases e⟩
    rw [hl] at hp ⊢
    obtain ⟨b, off, cap, k1, k2, k3⟩ := h2 hp
    exact ⟨b, off, cap, k1, fun i hi => hS _ _ (k2 i hi), pureE_rd hS sz ds h3 k3⟩
  | .bx _ _, _, _, e, _ => by cases e
  | .ms _ _ _, _, _, e, _ => by cases e
  | .sln n, _, _, e, h => by cases e; exact h
  | .pe d off, _, _, e, ⟨b, o, u, hv, r, hc⟩ => by
    simp only [pureD, Option.map_eq_some_iff] at e
    obtain ⟨d', h1, rfl⟩ := e
    exact ⟨b, o, u, hv, pureD_rd hS d h1 r, fun i hi => ⟨hS _ _ (hc i hi).1, (hc i hi).2⟩⟩
  | .fn f a b, _, _, e, ⟨vs, us, hv, r1, r2⟩ => by
    simp only [pureD] at e
    split at e
    · rename_i a' b' h1 h2
      cases e
      exact ⟨vs, us, hv, pureL_rd hS a h1 r1, pureL_rd hS b h2 r2⟩
    · cases e
  | .ifc t d, _, _, e, ⟨u, hv, r⟩ => by
    simp only [pureD, Option.map_eq_some_iff] at e
    obtain ⟨d', h1, rfl⟩ := e
    exact ⟨u, hv, pureD_rd hS d h1 r⟩
theorem pureL_rd {C C' : Cx} {w : World} (hS : ∀ b o, C.S b o → C'.S b o) : ∀ (ds : List D) {es : List D} {vs : List Value}, pureL ds = some es → RdL C w ds vs → RdL C' w es vs
  | [], _, _, e, r => by simp only [pureL, Option.some.injEq] at e; subst e; exact r
  | d :: ds, _, _, e, ⟨v, rest, hv, r1, r2⟩ => by
    simp only [pureL] at e
    split at e
    · rename_i d' ds' h1 h2
      cases e
      exact ⟨v, rest, hv, pureD_rd hS d h1 r1, pureL_rd hS ds h2 r2⟩
    · cases e
theorem pureE_rd {C C' : Cx} {w : World} (hS : ∀ b o, C.S b o → C'.S b o) (sz : Nat) : ∀ (ds : List D) {es : List D} {f : Nat → Option Value}, pureL ds = some es → RdE C w sz ds f → RdE C' w sz es f
  | [], _, _, e, _ => by simp only [pureL, Option.some.injEq] at e; subst e; trivial
  | d :: ds, _, _, e, ⟨⟨u, r, h3, h4, h5⟩, r2⟩ => by
    simp only [pureL] at e
    split at e
    · rename_i d' ds' h1 h2
      cases e
      exact ⟨⟨u, pureD_rd hS d h1 r, h3, h4, h5⟩, pureE_rd hS sz ds h2 r2⟩
    · cases e
end
/-! ### Contracts -/
def bare (S : Nat → Nat → Prop) : Cx := ⟨S, fun _ => none, fun _ => none⟩
/-- A call that leaves all that was there, and yields a datum. -/
def Yd (P : Program) (k : FuncId) (ds : List D) (d : D) : Prop :=
  ∀ (S : Nat → Nat → Prop) (w : World) (args : List Value), (∀ b o, S b o → b < w.heap.size) → RdL (bare S) w ds args →
    Calls P k args.toArray w fun e w' => ∃ (v : Value) (S' : Nat → Nat → Prop), e = .returned v ∧ Below w.heap.size w w' ∧ (∀ b o, S b o → S' b o) ∧ (∀ b o, S' b o → b < w'.heap.size ∧ (b < w.heap.size → S b o)) ∧ Rd (bare S') w' d v
def Callable (P : Program) (k : FuncId) : Prop := ∃ fn c, P.funcs[k]? = some fn ∧ (fn.name == "runtime.NumGoroutine") = false ∧ fn.body = some c
structure PureOk (P : Program) (penv : FuncId → List D → Option D) : Prop where
  can : ∀ k ds d, penv k ds = some d → Callable P k
  ok : ∀ k ds d, penv k ds = some d → Yd P k ds d
/-- A call that may turn the boxes. -/
def Ret (P : Program) (C : Cx) (w : World) (k : FuncId) (args : List Value) (d : D) (h' : H) : Prop :=
  Calls P k args.toArray w fun e w' => ∃ v C', e = .returned v ∧ Fw C w C' w' ∧ Sim C' h' w' ∧ Rd C' w' d v
structure CallOk (P : Program) (call : FuncId → List D → H → Option (D × H)) : Prop where
  can : ∀ k ds h d h', call k ds h = some (d, h') → Callable P k
  ok : ∀ k ds h d h', call k ds h = some (d, h') → ∀ C w args, Sim C h w → RdL C w ds args → Ret P C w k args d h'
theorem callable_run {k : FuncId} (hc : Callable P k) (args : Array Value) (w : World) : (callFunc k args).run P w = .ok (.enter k args) w := by
  obtain ⟨fn, c, h1, h2, h3⟩ := hc
  have h2' : ¬ fn.name = "runtime.NumGoroutine" := by simpa using h2
  simp [callFunc, h1, h2', h3]
/-- What a pure call leaves to the one who called it. -/
theorem Fw.pure {C : Cx} {h : H} {w w' : World} {S' : Nat → Nat → Prop} (s : Sim C h w) (hb : Below w.heap.size w w') (hS : ∀ b o, S' b o → b < w'.heap.size ∧ (b < w.heap.size → C.S b o)) :
    Fw C w { C with S := fun b o => C.S b o ∨ S' b o } w' ∧ Sim { C with S := fun b o => C.S b o ∨ S' b o } h w' := by
  have f : Fw C w { C with S := fun b o => C.S b o ∨ S' b o } w' := by
    refine ⟨⟨hb.os, hb.tape, hb.output, hb.size, fun _ _ h => .inl h, fun b o hs => hb.cell (p := ⟨b, o, none⟩) (s.S b o hs), fun _ _ h => h, fun _ u h => ⟨u, h, .inl rfl⟩⟩, fun b hlt _ => hb.block b hlt, fun id _ h _ => ⟨id, h⟩, fun b o hs hlt => ?_⟩
    rcases hs with hs | hs
    · exact .inl hs
    · exact .inl ((hS b o hs).2 hlt)
  refine ⟨f, ⟨fun b o hs => ?_, fun id t ds e => ?_, fun id e sz n e' => ?_, fun id b hb' => Nat.lt_of_lt_of_le (s.lt id b hb') hb.size, s.idb, s.idl, s.inj, s.one⟩⟩
  · rcases hs with hs | hs
    · exact Nat.lt_of_lt_of_le (s.S b o hs) hb.size
    · exact (hS b o hs).1
  · obtain ⟨b, vs, h1, h2, h3, h4, h5⟩ := s.box id t ds e
    have hlt := s.lt id b (.inl h1)
    refine ⟨b, vs, h1, (hb.block b hlt).trans h2, h3.mono f.toEv, h4, fun o hs => ?_⟩
    rcases hs with hs | hs
    · exact h5 o hs
    · exact h5 o ((hS b o hs).2 hlt)
  · obtain ⟨u, xs, h1, h2, h3⟩ := s.log id e sz n e'
    refine ⟨u, xs, h1, ?_, fun b o hu hs => ?_⟩
    · refine h2.kept (row := none) ⟨hb.os, hb.tape, hb.output, hb.size, fun k hk _ => hb.block k hk⟩ ?_
      cases u.ownBlock <;> simp
    · have hlt := s.lt id b (.inr ⟨u, h1, hu⟩)
      rcases hs with hs | hs
      · exact h3 b o hu hs
      · exact h3 b o hu ((hS b o hs).2 hlt)
theorem PureOk.ret {penv : FuncId → List D → Option D} (hp : PureOk P penv) {C : Cx} {h : H} {w : World} (s : Sim C h w) {k : FuncId} {ds es : List D} {d : D} (e1 : pureL ds = some es) (e2 : penv k es = some d) (e3 : pureD d = some d) {args : List Value} (r : RdL C w ds args) :
    Calls P k args.toArray w fun e w' => ∃ (v : Value) (S' : Nat → Nat → Prop), e = .returned v ∧ Below w.heap.size w w' ∧ (∀ b o, S' b o → b < w'.heap.size ∧ (b < w.heap.size → C.S b o)) ∧ Rd { C with S := fun b o => C.S b o ∨ S' b o } w' d v := by
  refine (hp.ok k es d e2 C.S w args s.S (pureL_rd (C := C) (C' := bare C.S) (fun _ _ h => h) ds e1 r)).mono ?_
  rintro e w' ⟨v, S', h1, h2, h3, h4, h5⟩
  exact ⟨v, S', h1, h2, h4, pureD_rd (C := bare S') (C' := { C with S := fun b o => C.S b o ∨ S' b o }) (fun _ _ h => Or.inr h) d e3 h5⟩
/-! ### An operation -/
def dv (ts : List D) : Operand → D
  | .tmp t => ts.getD t .any
  | .const v => .raw v
  | .global g => .raw (.pointer (some ⟨g, 0, none⟩))
  | .func f => .raw (.func (.func f) #[] #[])
def fnD : D → Option (FuncId × List D × List D)
  | .raw (.func (.func k) f c) => some (k, f.toList.map D.raw, c.toList.map D.raw)
  | .fn (.func k) f c => some (k, f, c)
  | _ => none
def ifcD (t : TypeId) : D → D
  | .raw v => .raw (.iface t v)
  | d => .ifc t d
def notIface : TypeDesc → Bool
  | .interface _ => false
  | _ => true
def leafSize (P : Program) (e : TypeId) : Bool :=
  match P.info? e, P.underlying e with
  | some i, some d => d.isRow || i.size == 1
  | _, _ => false
def orRaw (P : Program) (ρ : Operand → D) (o : Oper) (x : Option D) : Option D :=
  match x with
  | some d => some d
  | none => rawOp P ρ o
def withH (h : H) (x : Option D) : Option (D × H) := x.map fun d => (d, h)
def pcall (penv : FuncId → List D → Option D) (k : FuncId) (ds : List D) : Option D :=
  match pureL ds with
  | some es => match penv k es with
    | some d => pureD d
    | none => none
  | none => none
def pairD (ρ : Operand → D) (parts : Array (Nat × Operand)) : List (Nat × D) := parts.toList.map fun p => (p.1, ρ p.2)
/-- What leaves the boxes and the logs. -/
def sop (P : Program) (ρ : Operand → D) (o : Oper) (h : H) : Option D :=
  match o.op with
  | .move x | .assign x => some (ρ x)
  | .pick c a b => match ρ c with
    | .raw (.bool t) => some (if t then ρ a else ρ b)
    | _ => none
  | .build t parts => buildD P t (pairD ρ parts)
  | .load t a => loadD P h t (ρ a)
  | .fieldAddr s x f => match fieldP P s f with
    | some (n, _) => moveP n (ρ x)
    | none => none
  | .field s x f => orRaw P ρ o (fieldD P s (ρ x) f)
  | .indexAddr t x i => indexD P t (ρ x) (ρ i)
  | .slice t x lo hi none => orRaw P ρ o (sliceD P t (ρ x) (lo.map ρ) (hi.map ρ))
  | .extract t i => orRaw P ρ o (extractD (ρ t) i)
  | .makeFunc f first cap => some (.fn f (first.toList.map ρ) (cap.toList.map ρ))
  | .makeInterface t x => match P.underlying t with
    | some d => if notIface d = true then some (ifcD t (ρ x)) else none
    | none => none
  | .convert s d x => orRaw P ρ o (convD P s d (ρ x))
  | .nilCheck x => match ρ x with
    | .bx id off => some (.bx id off)
    | .pe d off => some (.pe d off)
    | .ifc t d => some (.ifc t d)
    | .fn (.func k) a b => some (.fn (.func k) a b)
    | _ => rawOp P ρ o
  | .call c => match c.callee with
    | .builtin .len => orRaw P ρ o (if c.args.size = 1 ∧ c.argTypes.size = 1 then lenD P (c.argTypes.getD 0 0) (ρ (c.args.getD 0 (.const undef))) else none)
    | .builtin _ => rawOp P ρ o
    | _ => none
  | _ => rawOp P ρ o
def makeD (P : Program) (h : H) (t : TypeId) (l c : D) : Option (D × H) :=
  match elemP P t, l, c with
  | some (e, inf), .raw (.int _ x), .raw (.int _ y) =>
    if 0 ≤ x ∧ x ≤ y ∧ roomy y.toNat inf.bytes = true ∧ 0 < inf.size ∧ (0 < y.toNat * inf.size) then
      match rowZero P e y.toNat inf.size with
      | some zs => if x = 0 then none else some (.ms h.length 0 x.toNat, h ++ [.box e (zs.map D.raw)])
      | none => none
    else none
  | _, _, _ => none
theorem makeD_sound {C : Cx} {h : H} {w : World} (s : Sim C h w) {t : TypeId} {l c d : D} {lv cv : Value} {h' : H} (hl : Rd C w l lv) (hc : Rd C w c cv) (e : makeD P h t l c = some (d, h')) :
    ∃ v C' w', (Instr.makeSlice t lv cv).run P w = .ok v w' ∧ Fw C w C' w' ∧ Sim C' h' w' ∧ Rd C' w' d v := by
  unfold makeD at e
  split at e
  · rename_i el inf k x k' y hel
    split at e
    · rename_i hcond
      obtain ⟨hx, hxy, hro, hsz, hpos⟩ := hcond
      split at e
      · rename_i zs hz
        split at e
        · cases e
        · cases e
          obtain ⟨h1, h2⟩ := elemP_some hel
          simp only [Rd] at hl hc
          subst hl
          subst hc
          obtain ⟨n, rfl⟩ := Int.eq_ofNat_of_zero_le hx
          obtain ⟨m, rfl⟩ := Int.eq_ofNat_of_zero_le (Int.le_trans hx hxy)
          obtain ⟨hz2, hz1⟩ := rowZero_sound hz
          simp only [Int.ofNat_eq_natCast, Int.toNat_natCast] at hz hz1 hpos hro ⊢
          rcases hz1 with ⟨q1, _⟩ | ⟨q1, i, z, q2, q3, q4⟩
          · omega
          · rw [h2] at q2
            cases q2
            obtain ⟨C', f, s', hb⟩ := s.box_new el (vs := zs.toArray) (ds := zs.map D.raw) (by simpa using RdL.raws C w zs) (by simpa using hz2)
            obtain ⟨r1, r2⟩ := roomy_some hro
            simp only [roomy, Bool.and_eq_true, decide_eq_true_eq] at hro
            have hnm : n ≤ m := by exact_mod_cast hxy
            refine ⟨.slice (some ⟨w.heap.size, 0, none⟩) n m, C', w.alloc (.cells zs.toArray el), ?_, f, s', _, m, hb, rfl, hnm, r1⟩
            have wn : IntKind.i64.wrap (n : Int) = n := IntWalk.i64_in _ (by omega)
            have wm : IntKind.i64.wrap (m : Int) = m := IntWalk.i64_in _ (by omega)
            have hb48 : ¬ ((281474976710656 : Int) < (inf.bytes : Int) * (m : Int)) := by
              have : m * inf.bytes ≤ 140737488355328 := r2
              have h3 : (inf.bytes : Int) * (m : Int) = ((m * inf.bytes : Nat) : Int) := by rw [Nat.mul_comm]; rfl
              rw [h3]
              omega
            have hm0 : ¬ ((m : Int) < 0) := by omega
            have hn0 : ¬ ((n : Int) < 0) := by omega
            have hlm : ¬ ((m : Int) < (n : Int)) := by omega
            rw [q4]
            simp [Instr.makeSlice, run_underlying h1, asInt, asIntOf, typeInfo, h2, wn, wm, hb48, hm0, hn0, hlm, sizeOf, zeroValue, q3, q1, newRow]
      · cases e
    · cases e
  · cases e
def aop (P : Program) (call : FuncId → List D → H → Option (D × H)) (own : Bool) (ρ : Operand → D) (o : Oper) (h : H) : Option (D × H) :=
  match o.op with
  | .alloc t => match zeroD P t with
    | some ds => some (.bx h.length 0, h ++ [.box t ds])
    | none => none
  | .box t x => match cellsD (ρ x) with
    | some ds => if ds.all leafD = true then some (.bx h.length 0, h ++ [.box t ds]) else none
    | none => none
  | .buildSlice t n parts => match buildRow P t n (pairD ρ parts) with
    | some (e, sz, l) => if leafSize P e = true then (if own = true then some (.sl (some h.length) sz l, h ++ [.log e sz n]) else some (.sl none sz l, h)) else none
    | none => none
  | .makeSlice t l c => makeD P h t (ρ l) (ρ c)
  | .store t a x => match storeD P h t (ρ a) (ρ x) with
    | some h' => some (.any, h')
    | none => none
  | .call c => match c.callee with
    | .builtin .append => if c.args.size = 2 ∧ c.argTypes.size = 2 then appendD P h (c.argTypes.getD 0 0) (c.argTypes.getD 1 0) (ρ (c.args.getD 0 (.const undef))) (ρ (c.args.getD 1 (.const undef))) else none
    | .value f => match fnD (ρ f) with
      | some (k, first, cap) => call k (first ++ c.args.toList.map ρ ++ cap) h
      | none => none
    | _ => withH h (sop P ρ o h)
  | _ => withH h (sop P ρ o h)
theorem Reads.map {C : Cx} {w : World} {ρ : Operand → D} {ρv : Operand → Value} (hr : Reads C w ρ ρv) : ∀ l : List Operand, RdL C w (l.map ρ) (l.map ρv)
  | [] => rfl
  | x :: l => ⟨_, _, rfl, hr x, hr.map l⟩
theorem Reads.pairs {C : Cx} {w : World} {ρ : Operand → D} {ρv : Operand → Value} (hr : Reads C w ρ ρv) (parts : Array (Nat × Operand)) : PartsRd C w (pairD ρ parts) (parts.map fun (i, x) => (i, ρv x)).toList := by
  refine ⟨fun j => ?_, fun j p q hp hq => ?_⟩
  · unfold pairD
    simp only [List.getElem?_map, Array.toList_map, Option.map_map]
    rfl
  · unfold pairD at hp
    simp only [List.getElem?_map, Array.toList_map, Option.map_eq_some_iff] at hp hq
    obtain ⟨x, hx, rfl⟩ := hp
    obtain ⟨y, hy, rfl⟩ := hq
    rw [hx] at hy
    cases hy
    exact hr x.2
theorem orRaw_some {ρ : Operand → D} {o : Oper} {x : Option D} {d : D} (e : orRaw P ρ o x = some d) : x = some d ∨ rawOp P ρ o = some d := by
  unfold orRaw at e
  split at e
  · cases e; exact .inl rfl
  · exact .inr e
theorem withH_some {h : H} {x : Option D} {d : D} {h' : H} (e : withH h x = some (d, h')) : h' = h ∧ x = some d := by
  unfold withH at e
  rw [Option.map_eq_some_iff] at e
  obtain ⟨y, rfl, e⟩ := e
  cases e
  exact ⟨rfl, rfl⟩
theorem wp_of_value {o : Oper} {a : Act} {w w' : World} {v : Value} {K : Act → World → Prop} {Q : Exit → Act → World → Prop} (e : (execOp a.eval o).run P w = .ok (.value v) w') (hk : K (a.put o.dst v) w') : o.wp P a w K Q := by
  unfold Oper.wp
  rw [e]
  exact hk
theorem size_one {α : Type} {args : Array α} (x : α) (h : args.size = 1) : args = #[args.getD 0 x] := by
  apply Array.ext
  · simpa using h
  · intro i h1 h2
    have : i = 0 := by simp at h2; omega
    subst this
    simp [h]
theorem size_two {α : Type} {args : Array α} (x : α) (h : args.size = 2) : args = #[args.getD 0 x, args.getD 1 x] := by
  apply Array.ext
  · simpa using h
  · intro i h1 h2
    simp at h2
    rcases (by omega : i = 0 ∨ i = 1) with rfl | rfl <;> simp [h]
theorem sop_sound {C : Cx} {h : H} {w : World} (s : Sim C h w) {ρ : Operand → D} {ρv : Operand → Value} (hr : Reads C w ρ ρv) {o : Oper} {d : D}
    (e : sop P ρ o h = some d) : ∃ v, (execOp ρv o).run P w = .ok (.value v) w ∧ Rd C w d v := by
  have viaRaw : ∀ {x : Option D}, orRaw P ρ o x = some d → (∀ d', x = some d' → ∃ v, (execOp ρv o).run P w = .ok (.value v) w ∧ Rd C w d' v) → ∃ v, (execOp ρv o).run P w = .ok (.value v) w ∧ Rd C w d v := fun {x} e1 e2 => by
    rcases orRaw_some e1 with h2 | h2
    · exact e2 d h2
    · exact rawOp_sound hr h2
  unfold sop at e
  split at e
  · rename_i x ho
    cases e
    exact ⟨_, by simp [execOp, ho], hr x⟩
  · rename_i x ho
    cases e
    exact ⟨_, by simp [execOp, ho], hr x⟩
  · rename_i c x y ho
    split at e
    · rename_i t hc
      cases e
      have hc' := hr c
      rw [hc] at hc'
      simp only [Rd] at hc'
      cases t with
      | true => exact ⟨ρv x, by simp [execOp, ho, hc', asBool], hr x⟩
      | false => exact ⟨ρv y, by simp [execOp, ho, hc', asBool], hr y⟩
    · cases e
  · rename_i t parts ho
    obtain ⟨v, h1, h2⟩ := buildD_sound (w := w) (hr.pairs parts) e
    exact ⟨v, by simp only [execOp, ho, Sem.run_bind, h1]; rfl, h2⟩
  · rename_i t x ho
    obtain ⟨v, h1, h2⟩ := loadD_sound s (hr x) e
    exact ⟨v, by simp only [execOp, ho, Sem.run_bind, h1]; rfl, h2⟩
  · rename_i st x f ho
    split at e
    · rename_i n ft hf
      obtain ⟨v, h1, h2⟩ := fieldAddr_sound hf (hr x) e
      exact ⟨v, by simp only [execOp, ho, Sem.run_bind, h1]; rfl, h2⟩
    · cases e
  · rename_i st x f ho
    refine viaRaw e fun d' hd => ?_
    obtain ⟨v, h1, h2⟩ := fieldD_sound (hr x) hd
    exact ⟨v, by simp only [execOp, ho, Sem.run_bind, h1]; rfl, h2⟩
  · rename_i t x i ho
    obtain ⟨v, h1, h2⟩ := indexD_sound (hr x) (hr i) e
    exact ⟨v, by simp only [execOp, ho, Sem.run_bind, h1]; rfl, h2⟩
  · rename_i t x lo hi ho
    refine viaRaw e fun d' hd => ?_
    have hopt : ∀ y : Option Operand, (match y.map ρ, y.map ρv with | some d, some v => Rd C w d v | none, none => True | _, _ => False) := fun y => by
      cases y with
      | none => trivial
      | some y => exact hr y
    obtain ⟨v, h1, h2⟩ := sliceD_sound (hr x) (hopt lo) (hopt hi) hd
    exact ⟨v, by simp only [execOp, ho, Sem.run_bind, Option.map_none, h1]; rfl, h2⟩
  · rename_i t i ho
    refine viaRaw e fun d' hd => ?_
    obtain ⟨v, h1, h2⟩ := extractD_sound (P := P) (hr t) hd
    exact ⟨v, by simp only [execOp, ho, Sem.run_bind, h1]; rfl, h2⟩
  · rename_i f first cap ho
    cases e
    refine ⟨.func f (first.map ρv) (cap.map ρv), ?_, _, _, by rw [← Array.toList_map, ← Array.toList_map], hr.map first.toList, hr.map cap.toList⟩
    simp [execOp, ho, Instr.makeFunc]
  · rename_i t x ho
    split at e
    · rename_i dd hu
      split at e
      · rename_i hn
        cases e
        have hrun : (execOp ρv o).run P w = .ok (.value (.iface t (ρv x))) w := by
          simp only [execOp, ho, Sem.run_bind, Instr.makeInterface, run_underlying hu]
          cases dd <;> first | rfl | cases hn
        refine ⟨_, hrun, ?_⟩
        have hx := hr x
        unfold ifcD
        split
        · rename_i v hv
          rw [hv] at hx
          simp only [Rd] at hx ⊢
          rw [hx]
        · exact ⟨_, rfl, hx⟩
      · cases e
    · cases e
  · rename_i st dt x ho
    refine viaRaw e fun d' hd => ?_
    obtain ⟨v, h1, h2⟩ := convD_sound (hr x) hd
    exact ⟨v, by simp only [execOp, ho, Sem.run_bind, h1]; rfl, h2⟩
  · rename_i x ho
    have hx := hr x
    split at e
    · rename_i id off hv
      cases e
      rw [hv] at hx
      have hx' := hx
      obtain ⟨b, _, e2⟩ := hx'
      exact ⟨ρv x, by simp [execOp, ho, e2], hx⟩
    · rename_i d' off hv
      cases e
      rw [hv] at hx
      have hx' := hx
      obtain ⟨b, o', u, e2, _⟩ := hx'
      exact ⟨ρv x, by simp [execOp, ho, e2], hx⟩
    · rename_i t d' hv
      cases e
      rw [hv] at hx
      have hx' := hx
      obtain ⟨u, e2, _⟩ := hx'
      exact ⟨ρv x, by simp [execOp, ho, e2], hx⟩
    · rename_i k a b hv
      cases e
      rw [hv] at hx
      have hx' := hx
      obtain ⟨vs, us, e2, _⟩ := hx'
      exact ⟨ρv x, by simp [execOp, ho, e2], hx⟩
    · exact rawOp_sound hr e
  · rename_i c ho
    obtain ⟨callee, args, argTypes⟩ := c
    dsimp only at e
    split at e
    · refine viaRaw e fun d' hd => ?_
      split at hd
      · rename_i hsz
        obtain ⟨v, h1, h2⟩ := lenD_sound (ty := o.type) (hr (args.getD 0 (.const undef))) hd
        refine ⟨v, ?_, h2⟩
        rw [size_one (.const undef) hsz.1, size_one 0 hsz.2] at ho
        simp only [execOp, ho, Sem.run_bind, resolve, invoke, builtin, Sem.run_pure, Result.andThen_ok, List.map_toArray, List.map_cons, List.map_nil, h1]
      · cases hd
    · exact rawOp_sound hr e
    · cases e
  · exact rawOp_sound hr e
theorem aop_sound {call : FuncId → List D → H → Option (D × H)} (hcall : CallOk P call) {C : Cx} {h : H} {w : World} (s : Sim C h w) {ρ : Operand → D} {a : Act} (hr : Reads C w ρ a.eval) {o : Oper} {d : D} {h' : H}
    {own : Bool} (e : aop P call own ρ o h = some (d, h')) {K : Act → World → Prop} {Q : Exit → Act → World → Prop} (hk : ∀ v C' w', Fw C w C' w' → Sim C' h' w' → Rd C' w' d v → K (a.put o.dst v) w') : o.wp P a w K Q := by
  have still : withH h (sop P ρ o h) = some (d, h') → o.wp P a w K Q := fun e1 => by
    obtain ⟨rfl, e2⟩ := withH_some e1
    obtain ⟨v, h1, h2⟩ := sop_sound s hr e2
    exact wp_of_value h1 (hk _ C w (Fw.refl _ _) s h2)
  unfold aop at e
  split at e
  · rename_i t ho
    split at e
    · rename_i ds hz
      cases e
      obtain ⟨i, z, h1, h2, h3, rfl⟩ := zeroD_some hz
      obtain ⟨C', w', v', k1, k2, k3, k4⟩ := box_good (P := P) s t (v := z) (RdL.raws C w _) h3
      refine wp_of_value (v := .pointer (some v')) (w' := w') ?_ (hk _ C' w' k2 k3 k4)
      simp [execOp, ho, Instr.alloc, zeroValue, typeInfo, h1, h2, k1]
    · cases e
  · rename_i t x ho
    split at e
    · rename_i ds hc
      split at e
      · rename_i hl
        cases e
        have hcs := (hr x).cells hc
        obtain ⟨C', w', v', k1, k2, k3, k4⟩ := box_good (P := P) s t (v := a.eval x) hcs (hcs.leaves hl)
        refine wp_of_value (v := .pointer (some v')) (w' := w') ?_ (hk _ C' w' k2 k3 k4)
        simp [execOp, ho, Instr.box, k1]
      · cases e
    · cases e
  · rename_i t n parts ho
    split at e
    · rename_i el sz l hb
      split at e
      · rename_i hls
        have hside : ∀ i dd, P.info? el = some i → P.underlying el = some dd → dd.isRow = false → i.size = 1 := fun i dd h1 h2 h3 => by
          unfold leafSize at hls
          rw [h1, h2] at hls
          simp only [Bool.or_eq_true, beq_iff_eq] at hls
          rcases hls with hls | hls
          · rw [h3] at hls; cases hls
          · exact hls
        split at e
        · cases e
          obtain ⟨v, C', w', k1, k2, k3, k4, _⟩ := buildRow_sound s (hr.pairs parts) hb hside
          refine wp_of_value ?_ (hk _ C' w' k2 k3 k4)
          simp only [execOp, ho, Sem.run_bind, k1]
          rfl
        · cases e
          obtain ⟨cv, k1, k2, k3, k4, k5⟩ := buildRow_core (hr.pairs parts) hb hside
          have f := Fw.alloc s (.cells cv el) (fun _ => True)
          refine wp_of_value (v := .slice (some ⟨w.heap.size, 0, none⟩) n n) (w' := w.alloc (.cells cv el)) ?_ (hk _ _ _ f (s.alloc _ _) ⟨⟨_, _, by rw [k4], by rw [k4]; exact Nat.le_refl _, k3⟩, fun h0 => ⟨_, 0, n, by rw [k4], fun i _ => .inr ⟨rfl, trivial⟩, RdE.mono f.toEv sz l _ _ k5 fun i _ => ?_⟩, fun id e => by cases e⟩)
          · simp only [execOp, ho, Sem.run_bind, k1]
            rfl
          · rw [Nat.zero_add]
            exact World.cell?_alloc_new w _ _ i
      · cases e
    · cases e
  · rename_i t x y ho
    obtain ⟨v, C', w', k1, k2, k3, k4⟩ := makeD_sound s (hr x) (hr y) e
    refine wp_of_value ?_ (hk _ C' w' k2 k3 k4)
    simp only [execOp, ho, Sem.run_bind, k1]
    rfl
  · rename_i t x y ho
    split at e
    · rename_i h2 hst
      cases e
      obtain ⟨w', k1, k2, k3⟩ := storeD_sound s (hr x) (hr y) hst
      have : (execOp a.eval o).run P w = .ok .skip w' := by
        simp only [execOp, ho, Sem.run_bind, k1]
        rfl
      unfold Oper.wp
      rw [this]
      exact hk undef C w' k2 k3 trivial
    · cases e
  · rename_i c ho
    obtain ⟨callee, args, argTypes⟩ := c
    dsimp only at e
    split at e
    · split at e
      · rename_i hsz
        obtain ⟨v, C', w', k1, k2, k3, k4⟩ := appendD_sound (ty := o.type) s (hr (args.getD 0 (.const undef))) (hr (args.getD 1 (.const undef))) e
        refine wp_of_value ?_ (hk _ C' w' k2 k3 k4)
        rw [size_two (.const undef) hsz.1, size_two 0 hsz.2] at ho
        simp only [execOp, ho, Sem.run_bind, resolve, invoke, builtin, Sem.run_pure, Result.andThen_ok, List.map_toArray, List.map_cons, List.map_nil, k1]
      · cases e
    · rename_i f
      split at e
      · rename_i k first cap hf
        have hfr := hr f
        have hargs : RdL C w (first ++ args.toList.map ρ ++ cap) ((match a.eval f with | .func _ x y => x.toList | _ => []) ++ args.toList.map a.eval ++ (match a.eval f with | .func _ x y => y.toList | _ => [])) ∧ ∃ x y, a.eval f = .func (.func k) x y := by
          unfold fnD at hf
          split at hf
          · rename_i k' x y hv
            cases hf
            rw [hv] at hfr
            simp only [Rd] at hfr
            rw [hfr]
            exact ⟨((RdL.raws C w _).app (hr.map _)).app (RdL.raws C w _), _, _, rfl⟩
          · rename_i k' x y hv
            cases hf
            rw [hv] at hfr
            simp only [Rd] at hfr
            obtain ⟨vs, us, e1, r1, r2⟩ := hfr
            rw [e1]
            exact ⟨(r1.app (hr.map _)).app r2, _, _, rfl⟩
          · cases hf
        obtain ⟨hargs, x, y, hev⟩ := hargs
        rw [hev] at hargs
        have hret := hcall.ok k _ h d h' e C w _ s hargs
        have hrun : (execOp a.eval o).run P w = .ok (.enter k ((x.toList ++ args.toList.map a.eval ++ y.toList).toArray)) w := by
          simp only [execOp, ho, Sem.run_bind, resolve, hev, Deferred.ofValue, Sem.run_pure, Result.andThen_ok, invoke]
          rw [callable_run (hcall.can k _ h d h' e)]
          congr 2
          apply Array.ext'
          simp
        unfold Oper.wp
        rw [hrun]
        refine Calls.mono hret ?_
        rintro e' w' ⟨v, C', rfl, k1, k2, k3⟩
        exact hk v C' w' k1 k2 k3
      · cases e
    · exact still e
  · exact still e
end
end Go.Proofs.Ytclhomkgphdagaa.Pv

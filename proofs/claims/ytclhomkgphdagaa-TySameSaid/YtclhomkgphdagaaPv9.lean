/- The evaluator over data (see NOTES, 'Pv'): part Pv9. -/
import Derived.Test.YtclhomkgphdagaaPv8
import Derived.LoopN
import Derived.Tactics
namespace Go.Proofs.Ytclhomkgphdagaa.Pv
open Go Go.RowKit
section
variable {P : Program}
def putD (ts : List D) : Option Tmp → D → List D
  | some t, d => ts.set t d
  | none, _ => ts
def wantedD (ops : Array Oper) (ts : List D) (o : Oper) : Option Bool :=
  match o.guard with
  | none => some true
  | some (j, want) => match (ops[j]?).bind (·.dst) with
    | some t => match ts[t]? with
      | some (.raw (.bool b)) => some (b == want)
      | some (.raw (.tuple _)) => some false
      | _ => none
    | none => some false
structure TA (C : Cx) (w : World) (ts : List D) (a : Act) : Prop where
  rd : RdL C w ts a.tmps.toList
  defers : a.defers = []
theorem TA.mono {C C' : Cx} {w w' : World} {ts : List D} {a : Act} (h : TA C w ts a) (f : Ev C w C' w') : TA C' w' ts a := ⟨h.rd.mono f, h.defers⟩
theorem TA.put {C : Cx} {w : World} {ts : List D} {a : Act} (h : TA C w ts a) {d : D} {v : Value} (hd : Rd C w d v) (t : Option Tmp) : TA C w (putD ts t d) (a.put t v) := by
  cases t with
  | none => exact h
  | some t => exact ⟨by simpa [putD, Act.put] using RdL.set hd h.rd t, h.defers⟩
theorem TA.reads {C : Cx} {w : World} {ts : List D} {a : Act} (h : TA C w ts a) : Reads C w (dv ts) a.eval := by
  intro x
  cases x with
  | tmp t =>
    simp only [dv, Act.eval]
    cases ht : ts[t]? with
    | none => simp [List.getD, ht, Rd]
    | some d =>
      obtain ⟨v, hv, hr⟩ := h.rd.get ht
      have : a.tmps.getD t undef = v := by
        rw [Array.getElem?_toList] at hv
        simp [hv]
      simp [List.getD, ht, this]
      exact hr
  | const v => rfl
  | global g => rfl
  | func f => rfl
theorem wantedD_sound {C : Cx} {w : World} {ops : Array Oper} {ts : List D} {a : Act} (h : TA C w ts a) {o : Oper} {b : Bool} (e : wantedD ops ts o = some b) : Region.wanted o (yielded ops a.tmps) = b := by
  unfold wantedD at e
  unfold Region.wanted
  split at e
  · rename_i hg
    cases e
    simp [hg]
  · rename_i j want hg
    simp only [hg]
    split at e
    · rename_i t ht
      split at e
      · rename_i b' hb
        cases e
        obtain ⟨v, hv, hr⟩ := h.rd.get hb
        simp only [Rd] at hr
        subst hr
        rw [Array.getElem?_toList] at hv
        unfold yielded
        rw [ht]
        simp only [Option.bind_some, hv]
        cases b' <;> cases want <;> rfl
      · rename_i vs hb
        cases e
        obtain ⟨v, hv, hr⟩ := h.rd.get hb
        simp only [Rd] at hr
        subst hr
        rw [Array.getElem?_toList] at hv
        unfold yielded
        rw [ht]
        simp only [Option.bind_some, hv]
        rfl
      · cases e
    · rename_i ht
      cases e
      unfold yielded
      rw [ht]
      rfl
def ownB (ops : Array Oper) (o : Oper) : Bool :=
  match o.dst with
  | some t => ops.any fun q => match q.op with
    | .assign (.tmp u) => u == t
    | .store _ _ (.tmp u) => u == t
    | .call { callee := .builtin .append, args := args, argTypes := _ } => match (args[0]? : Option Operand) with
      | some (.tmp u) => u == t
      | _ => false
    | _ => false
  | none => false
/-- The operations of a region, in the order of the text. -/
def alist (P : Program) (call : FuncId → List D → H → Option (D × H)) (ops : Array Oper) : List Oper → List D → H → Option (List D × H)
  | [], ts, h => some (ts, h)
  | o :: rest, ts, h => match wantedD ops ts o with
    | some true => match aop P call (ownB ops o) (dv ts) o h with
      | some (d, h') => alist P call ops rest (putD ts o.dst d) h'
      | none => none
    | some false => alist P call ops rest (putD ts o.dst (.raw undef)) h
    | none => none
theorem alist_sound {call : FuncId → List D → H → Option (D × H)} (hcall : CallOk P call) {ops : Array Oper} {Q : Exit → Act → World → Prop} : ∀ {l : List Oper} {ts ts' : List D} {h h' : H} {C : Cx} {w : World} {a : Act}, alist P call ops l ts h = some (ts', h') → Sim C h w → TA C w ts a →
    (∀ a' C' w', Fw C w C' w' → Sim C' h' w' → TA C' w' ts' a' → Q .normal a' w') → wpList P ops Q l a w
  | [], ts, ts', h, h', C, w, a, e, s, ta, hk => by
    simp only [alist, Option.some.injEq, Prod.mk.injEq] at e
    obtain ⟨rfl, rfl⟩ := e
    exact hk a C w (Fw.refl _ _) s ta
  | o :: rest, ts, ts', h, h', C, w, a, e, s, ta, hk => by
    simp only [alist] at e
    unfold wpList
    split at e
    · rename_i hw
      rw [wantedD_sound ta hw]
      split at e
      · rename_i d h1 ho
        refine .inl (aop_sound hcall s ta.reads ho fun v C' w' f s' r => ?_)
        exact alist_sound hcall e s' ((ta.mono f.toEv).put r _) fun a' C2 w2 f2 s2 t2 => hk a' C2 w2 (f.trans f2) s2 t2
      · cases e
    · rename_i hw
      rw [wantedD_sound ta hw]
      exact alist_sound hcall e s (ta.put (show Rd C w (.raw undef) undef from rfl) _) hk
    · cases e
/-! ### Code -/
inductive AExit where
  | normal
  | exit (id : Nat)
  | ret
def AExit.ex : AExit → Exit
  | .normal => .normal
  | .exit id => .exit id
  | .ret => .ret
abbrev Res := Option (AExit × List D × H)
def aloop (step : List D → H → Res) : Nat → List D → H → Res
  | 0, _, _ => none
  | n + 1, ts, h => match step ts h with
    | some (.normal, ts', h') => aloop step n ts' h'
    | r => r
structure Env where
  call : FuncId → List D → H → Option (D × H)
  dr : List Oper → List D → H → Option (List D × H)
/-! ### What a round may forget -/
mutual
def idb (m : Nat) : D → Bool
  | .any | .raw _ | .sln _ => true
  | .agg ds | .tup ds => idbL m ds
  | .sl tag _ ds => (match tag with | some id => decide (id < m) | none => true) && idbL m ds
  | .bx id _ | .ms id _ _ => decide (id < m)
  | .pe d _ | .ifc _ d => idb m d
  | .fn _ a b => idbL m a && idbL m b
def idbL (m : Nat) : List D → Bool
  | [] => true
  | d :: ds => idb m d && idbL m ds
end
def cellIdb (m : Nat) : Cell → Bool
  | .box _ ds => idbL m ds
  | .log .. => true
def gc (m : Nat) (ts : List D) (h : H) : H := if idbL m ts = true ∧ (h.take m).all (cellIdb m) = true then h.take m else h
def scrub : List Tmp → List D → List D
  | [], ts => ts
  | t :: r, ts => scrub r (ts.set t .any)
/-- What a text defines for sure, and what it uses ahead of that. -/
structure DU where
  defs : List Tmp
  uses : List Tmp
def duUse (x : DU) : Operand → DU
  | .tmp t => if x.defs.contains t then x else ⟨x.defs, t :: x.uses⟩
  | _ => x
def duOps : List Oper → DU → DU
  | [], x => x
  | o :: r, x =>
    let y := o.op.operands.toList.foldl duUse x
    duOps r ⟨o.dst.toList ++ y.defs, y.uses⟩
def duCode : Code → DU → DU
  | .region _ ops _, x => duOps ops.toList x
  | .seq a b, x => duCode b (duCode a x)
  | .cond c a b, x =>
    let x := duUse x c
    let p := duCode a x
    let q := duCode b ⟨x.defs, p.uses⟩
    ⟨p.defs.filter q.defs.contains, q.uses⟩
  | .block _ c, x | .loop c, x => ⟨x.defs, (duCode c x).uses⟩
  | _, x => x
def allDsts : Code → List Tmp
  | .region _ ops _ => ops.toList.filterMap (·.dst)
  | .seq a b => allDsts a ++ allDsts b
  | .cond _ a b => allDsts a ++ allDsts b
  | .block _ c | .loop c => allDsts c
  | _ => []
def dstsOf (c : Code) : List Tmp :=
  let u := (duCode c ⟨[], []⟩).uses
  (allDsts c).filter fun t => !u.contains t
def Cx.cut (C : Cx) (m : Nat) : Cx := { C with bx := fun id => if id < m then C.bx id else none, lg := fun id => if id < m then C.lg id else none }
mutual
theorem Rd.cut {C : Cx} {w : World} {m : Nat} : ∀ (d : D) {v : Value}, idb m d = true → Rd C w d v → Rd (C.cut m) w d v
  | .any, _, _, _ => trivial
  | .raw _, _, _, h => h
  | .agg ds, _, e, ⟨vs, hv, r⟩ => ⟨vs, hv, RdL.cut ds (by simpa only [idb] using e) r⟩
  | .tup ds, _, e, ⟨vs, hv, r⟩ => ⟨vs, hv, RdL.cut ds (by simpa only [idb] using e) r⟩
  | .sl tag sz ds, _, e, ⟨h1, h2, h3⟩ => by
    simp only [idb, Bool.and_eq_true] at e
    refine ⟨h1, fun hp => ?_, fun id ht => ?_⟩
    · obtain ⟨b, off, cap, k1, k2, k3⟩ := h2 hp
      exact ⟨b, off, cap, k1, k2, RdE.cut sz ds e.2 k3⟩
    · obtain ⟨u, k1, k2⟩ := h3 id ht
      subst ht
      have hlt : id < m := by simpa using e.1
      exact ⟨u, by simp only [Cx.cut, if_pos hlt]; exact k1, k2⟩
  | .bx id off, _, e, ⟨b, hb, hv⟩ => by
    have hlt : id < m := by simpa [idb] using e
    exact ⟨b, by simp only [Cx.cut, if_pos hlt]; exact hb, hv⟩
  | .ms id off n, _, e, ⟨b, cap, hb, hv⟩ => by
    have hlt : id < m := by simpa [idb] using e
    exact ⟨b, cap, by simp only [Cx.cut, if_pos hlt]; exact hb, hv⟩
  | .sln n, _, _, h => h
  | .pe d off, _, e, ⟨b, o, u, hv, r, hc⟩ => ⟨b, o, u, hv, Rd.cut d (by simpa only [idb] using e) r, hc⟩
  | .fn f a b, _, e, ⟨vs, us, hv, r1, r2⟩ => by
    simp only [idb, Bool.and_eq_true] at e
    exact ⟨vs, us, hv, RdL.cut a e.1 r1, RdL.cut b e.2 r2⟩
  | .ifc t d, _, e, ⟨u, hv, r⟩ => ⟨u, hv, Rd.cut d (by simpa only [idb] using e) r⟩
theorem RdL.cut {C : Cx} {w : World} {m : Nat} : ∀ (ds : List D) {vs : List Value}, idbL m ds = true → RdL C w ds vs → RdL (C.cut m) w ds vs
  | [], _, _, r => r
  | d :: ds, _, e, ⟨v, rest, hv, r1, r2⟩ => by
    simp only [idbL, Bool.and_eq_true] at e
    exact ⟨v, rest, hv, Rd.cut d e.1 r1, RdL.cut ds e.2 r2⟩
theorem RdE.cut {C : Cx} {w : World} {m : Nat} (sz : Nat) : ∀ (ds : List D) {f : Nat → Option Value}, idbL m ds = true → RdE C w sz ds f → RdE (C.cut m) w sz ds f
  | [], _, _, _ => trivial
  | d :: ds, _, e, ⟨⟨u, r, h3, h4, h5⟩, r2⟩ => by
    simp only [idbL, Bool.and_eq_true] at e
    exact ⟨⟨u, Rd.cut d e.1 r, h3, h4, h5⟩, RdE.cut sz ds e.2 r2⟩
end
theorem Cx.cut_blk {C : Cx} {m id b : Nat} (h : (C.cut m).blk id b) : id < m ∧ C.blk id b := by
  rcases h with h | ⟨u, h, hb⟩
  · simp only [Cx.cut] at h
    split at h
    · exact ⟨‹_›, .inl h⟩
    · cases h
  · simp only [Cx.cut] at h
    split at h
    · exact ⟨‹_›, .inr ⟨u, h, hb⟩⟩
    · cases h
theorem Sim.cut {C : Cx} {h : H} {w : World} (s : Sim C h w) {m : Nat} (hm : (h.take m).all (cellIdb m) = true) : Sim (C.cut m) (h.take m) w := by
  have old : ∀ {id : Nat} {c : Cell}, (h.take m)[id]? = some c → id < m ∧ h[id]? = some c := fun {id c} e => by
    have hlt := (List.getElem?_eq_some_iff.1 e).1
    rw [List.length_take] at hlt
    rw [List.getElem?_take_of_lt (by omega)] at e
    exact ⟨by omega, e⟩
  refine ⟨s.S, fun id t ds e => ?_, fun id e sz n e' => ?_, fun id b hb => s.lt id b (Cx.cut_blk hb).2, fun id b hb => ?_, fun id u hu => ?_, fun id id' b hb hb' => s.inj id id' b (Cx.cut_blk hb).2 (Cx.cut_blk hb').2, fun id b hb => ?_⟩
  · obtain ⟨hlt, e2⟩ := old e
    obtain ⟨b, vs, h1, h2, h3, h4, h5⟩ := s.box id t ds e2
    have hid := List.all_eq_true.1 hm _ (List.mem_of_getElem? e)
    exact ⟨b, vs, by simp only [Cx.cut, if_pos hlt]; exact h1, h2, h3.cut ds hid, h4, h5⟩
  · obtain ⟨hlt, e2⟩ := old e'
    obtain ⟨u, xs, h1, h2, h3⟩ := s.log id e sz n e2
    exact ⟨u, xs, by simp only [Cx.cut, if_pos hlt]; exact h1, h2, h3⟩
  · simp only [Cx.cut] at hb
    split at hb
    · have := s.idb id b hb
      rw [List.length_take]
      omega
    · cases hb
  · simp only [Cx.cut] at hu
    split at hu
    · have := s.idl id u hu
      rw [List.length_take]
      omega
    · cases hu
  · simp only [Cx.cut] at hb ⊢
    split at hb
    · rw [if_pos ‹_›]
      exact s.one id b hb
    · cases hb
theorem Fw.cut {C0 C : Cx} {w0 w : World} {m : Nat} (f : Fw C0 w0 C w) (hb : ∀ id b, C0.bx id = some b → id < m) (hl : ∀ id u, C0.lg id = some u → id < m) : Fw C0 w0 (C.cut m) w := by
  refine ⟨⟨f.os, f.tape, f.output, f.size, f.sub, f.cell, fun id b h => ?_, fun id u h => ?_⟩, f.frame, fun id b h => f.own id b (Cx.cut_blk h).2, f.new⟩
  · simp only [Cx.cut, if_pos (hb id b h)]
    exact f.bx id b h
  · obtain ⟨u', h1, h2⟩ := f.lg id u h
    exact ⟨u', by simp only [Cx.cut, if_pos (hl id u h)]; exact h1, h2⟩
theorem TA.scrub {C : Cx} {w : World} {a : Act} : ∀ (l : List Tmp) {ts : List D}, TA C w ts a → TA C w (scrub l ts) a
  | [], _, h => h
  | t :: r, ts, h => by
    refine TA.scrub r ⟨?_, h.defers⟩
    cases ht : a.tmps.toList[t]? with
    | none =>
      have hlen := h.rd.len
      rw [List.getElem?_eq_none_iff] at ht
      rw [List.set_eq_of_length_le (by omega)]
      exact h.rd
    | some v =>
      have := RdL.set (C := C) (w := w) (d := .any) (v := v) trivial h.rd t
      have e : a.tmps.toList.set t v = a.tmps.toList := by
        obtain ⟨hlt, rfl⟩ := List.getElem?_eq_some_iff.1 ht
        exact List.set_getElem_self hlt
      rwa [e] at this
def aexec (P : Program) (E : Env) (n : Nat) : Code → List D → H → Res
  | .skip, ts, h => some (.normal, ts, h)
  | .region _ ops draw, ts, h => match (if draw = true then E.dr ops.toList ts h else alist P E.call ops ops.toList ts h) with
    | some (ts', h') => some (.normal, ts', h')
    | none => none
  | .seq a b, ts, h => match aexec P E n a ts h with
    | some (.normal, ts', h') => aexec P E n b ts' h'
    | r => r
  | .cond c x y, ts, h => match dv ts c with
    | .raw (.bool t) => if t = true then aexec P E n x ts h else aexec P E n y ts h
    | _ => none
  | .block id c, ts, h => match aexec P E n c ts h with
    | some (.exit j, ts', h') => if j = id then some (.normal, ts', h') else some (.exit j, ts', h')
    | r => r
  | .loop c, ts, h => aloop (fun ts' h' => aexec P E n c (scrub (dstsOf c) ts') (gc h.length (scrub (dstsOf c) ts') h')) n ts h
  | .exit id, ts, h => some (.exit id, ts, h)
  | .label _, ts, h => some (.normal, ts, h)
  | .ret, ts, h => some (.ret, ts, h)
  | _, _, _ => none
structure EnvOk (P : Program) (E : Env) : Prop where
  call : CallOk P E.call
  dr : ∀ l ts h ts' h', E.dr l ts h = some (ts', h') → ∀ (id : Nat) (C : Cx) (w : World) (a : Act) (Q : Exit → Act → World → Prop), Sim C h w → TA C w ts a →
    (∀ a' C' w', Fw C w C' w' → Sim C' h' w' → TA C' w' ts' a' → Q .normal a' w') → (Code.region id l.toArray true).wp P Q a w
theorem aloop_sound {c : Code} {Q : Exit → Act → World → Prop} {step : List D → H → Res} {m : Nat} {dl : List Tmp} {C0 : Cx} {w0 : World} (hb0 : ∀ id b, C0.bx id = some b → id < m) (hl0 : ∀ id u, C0.lg id = some u → id < m)
    (hc : ∀ {ts h ex ts' h'}, step ts h = some (ex, ts', h') → ∀ {C : Cx} {w : World} {a : Act} {Q : Exit → Act → World → Prop}, Sim C h w → TA C w ts a → (∀ a' C' w', Fw C w C' w' → Sim C' h' w' → TA C' w' ts' a' → Q ex.ex a' w') → c.wp P Q a w) :
    ∀ (n : Nat) {ts h ex ts' h'}, aloop (fun ts' h' => step (scrub dl ts') (gc m (scrub dl ts') h')) n ts h = some (ex, ts', h') → ∀ {C : Cx} {w : World} {a : Act}, Fw C0 w0 C w → Sim C h w → TA C w ts a → (∀ a' C' w', Fw C0 w0 C' w' → Sim C' h' w' → TA C' w' ts' a' → Q ex.ex a' w') → Code.rounds P c Q n a w
  | 0, _, _, _, _, _, e, _, _, _, _, _, _, _ => by cases e
  | n + 1, ts, h, ex, ts', h', e, C, w, a, f0, s, ta, hk => by
    simp only [aloop] at e
    unfold Code.rounds
    have ta1 := ta.scrub dl
    have key : ∃ C1, Fw C0 w0 C1 w ∧ Sim C1 (gc m (scrub dl ts) h) w ∧ TA C1 w (scrub dl ts) a := by
      unfold gc
      split
      · rename_i hg
        exact ⟨C.cut m, f0.cut hb0 hl0, s.cut hg.2, ⟨ta1.rd.cut _ hg.1, ta1.defers⟩⟩
      · exact ⟨C, f0, s, ta1⟩
    obtain ⟨C1, f1, s1, t1⟩ := key
    cases hst : step (scrub dl ts) (gc m (scrub dl ts) h) with
    | none => rw [hst] at e; cases e
    | some r =>
      obtain ⟨ex1, ts1, h1⟩ := r
      rw [hst] at e
      refine hc hst s1 t1 fun a2 C2 w2 f2 s2 t2 => ?_
      cases ex1 with
      | normal =>
        simp only at e
        exact aloop_sound hb0 hl0 hc n e (f1.trans f2) s2 t2 hk
      | exit j =>
        simp only [Option.some.injEq, Prod.mk.injEq] at e
        obtain ⟨rfl, rfl, rfl⟩ := e
        exact hk a2 C2 w2 (f1.trans f2) s2 t2
      | ret =>
        simp only [Option.some.injEq, Prod.mk.injEq] at e
        obtain ⟨rfl, rfl, rfl⟩ := e
        exact hk a2 C2 w2 (f1.trans f2) s2 t2
theorem aexec_sound {E : Env} (hE : EnvOk P E) (n : Nat) : ∀ (c : Code) {ts h ex ts' h'}, aexec P E n c ts h = some (ex, ts', h') → ∀ {C : Cx} {w : World} {a : Act} {Q : Exit → Act → World → Prop}, Sim C h w → TA C w ts a →
    (∀ a' C' w', Fw C w C' w' → Sim C' h' w' → TA C' w' ts' a' → Q ex.ex a' w') → c.wp P Q a w := by
  intro c
  induction c with
  | skip =>
    intro ts h ex ts' h' e C w a Q s ta hk
    simp only [aexec, Option.some.injEq, Prod.mk.injEq] at e
    obtain ⟨rfl, rfl, rfl⟩ := e
    exact wp_skip (hk a C w (Fw.refl _ _) s ta)
  | region id ops draw =>
    intro ts h ex ts' h' e C w a Q s ta hk
    simp only [aexec] at e
    split at e
    · rename_i ts1 h1 hr
      simp only [Option.some.injEq, Prod.mk.injEq] at e
      obtain ⟨rfl, rfl, rfl⟩ := e
      cases draw with
      | true =>
        rw [if_pos rfl] at hr
        have := hE.dr _ _ _ _ _ hr id C w a Q s ta hk
        simpa using this
      | false =>
        rw [if_neg (by simp)] at hr
        exact wp_region_list (alist_sound hE.call hr s ta hk)
    · cases e
  | seq x y ihx ihy =>
    intro ts h ex ts' h' e C w a Q s ta hk
    simp only [aexec] at e
    refine wp_seq ?_
    cases hx : aexec P E n x ts h with
    | none => rw [hx] at e; cases e
    | some r =>
      obtain ⟨ex1, ts1, h1⟩ := r
      rw [hx] at e
      refine ihx hx s ta fun a1 C1 w1 f1 s1 t1 => ?_
      cases ex1 with
      | normal =>
        simp only at e
        exact ihy e s1 t1 fun a' C' w' f' s' t' => hk a' C' w' (f1.trans f') s' t'
      | exit j =>
        simp only [Option.some.injEq, Prod.mk.injEq] at e
        obtain ⟨rfl, rfl, rfl⟩ := e
        exact hk a1 C1 w1 f1 s1 t1
      | ret =>
        simp only [Option.some.injEq, Prod.mk.injEq] at e
        obtain ⟨rfl, rfl, rfl⟩ := e
        exact hk a1 C1 w1 f1 s1 t1
  | cond c x y ihx ihy =>
    intro ts h ex ts' h' e C w a Q s ta hk
    simp only [aexec] at e
    split at e
    · rename_i t hc
      have hcv := ta.reads c
      rw [hc] at hcv
      simp only [Rd] at hcv
      refine wp_cond_split hcv (fun ht => ?_) fun ht => ?_
      · subst ht
        rw [if_pos rfl] at e
        exact ihx e s ta hk
      · subst ht
        rw [if_neg (by simp)] at e
        exact ihy e s ta hk
    · cases e
  | block id c ih =>
    intro ts h ex ts' h' e C w a Q s ta hk
    simp only [aexec] at e
    refine wp_block ?_
    cases hx : aexec P E n c ts h with
    | none => rw [hx] at e; cases e
    | some r =>
      obtain ⟨ex1, ts1, h1⟩ := r
      rw [hx] at e
      refine ih hx s ta fun a1 C1 w1 f1 s1 t1 => ?_
      cases ex1 with
      | normal =>
        simp only [Option.some.injEq, Prod.mk.injEq] at e
        obtain ⟨rfl, rfl, rfl⟩ := e
        exact hk a1 C1 w1 f1 s1 t1
      | exit j =>
        simp only at e
        by_cases hj : j = id
        · rw [if_pos hj] at e
          simp only [Option.some.injEq, Prod.mk.injEq] at e
          obtain ⟨rfl, rfl, rfl⟩ := e
          simp only [AExit.ex, Exit.inBlock, if_pos hj]
          exact hk a1 C1 w1 f1 s1 t1
        · rw [if_neg hj] at e
          simp only [Option.some.injEq, Prod.mk.injEq] at e
          obtain ⟨rfl, rfl, rfl⟩ := e
          simp only [AExit.ex, Exit.inBlock, if_neg hj]
          exact hk a1 C1 w1 f1 s1 t1
      | ret =>
        simp only [Option.some.injEq, Prod.mk.injEq] at e
        obtain ⟨rfl, rfl, rfl⟩ := e
        exact hk a1 C1 w1 f1 s1 t1
  | loop c ih =>
    intro ts h ex ts' h' e C w a Q s ta hk
    simp only [aexec] at e
    exact wp_loop_rounds n (aloop_sound (step := aexec P E n c) s.idb s.idl (fun {_ _ _ _ _} e' {_ _ _ _} s' ta' hk' => ih e' s' ta' hk') n e (Fw.refl C w) s ta hk)
  | exit id =>
    intro ts h ex ts' h' e C w a Q s ta hk
    simp only [aexec, Option.some.injEq, Prod.mk.injEq] at e
    obtain ⟨rfl, rfl, rfl⟩ := e
    exact wp_exit (hk a C w (Fw.refl _ _) s ta)
  | label l =>
    intro ts h ex ts' h' e C w a Q s ta hk
    simp only [aexec, Option.some.injEq, Prod.mk.injEq] at e
    obtain ⟨rfl, rfl, rfl⟩ := e
    exact wp_label (hk a C w (Fw.refl _ _) s ta)
  | ret =>
    intro ts h ex ts' h' e C w a Q s ta hk
    simp only [aexec, Option.some.injEq, Prod.mk.injEq] at e
    obtain ⟨rfl, rfl, rfl⟩ := e
    exact wp_ret (hk a C w (Fw.refl _ _) s ta)
  | rangeFunc f params assign body iha ihb => intro ts h ex ts' h' e; simp [aexec] at e
  | scope body ih => intro ts h ex ts' h' e; simp [aexec] at e
  | goto l => intro ts h ex ts' h' e; simp [aexec] at e
  | refuse why => intro ts h ex ts' h' e; simp [aexec] at e
/-! ### A function -/
def resD (P : Program) (h : H) (ts : List D) : List ResultVar → Option (List D)
  | [] => some []
  | .tmp t :: r => match resD P h ts r with
    | some l => some (ts.getD t .any :: l)
    | none => none
  | .cell t ty :: r => match loadD P h ty (ts.getD t .any), resD P h ts r with
    | some d, some l => some (d :: l)
    | _, _ => none
def oneD : List D → D
  | [d] => d
  | l => .tup l
def aret (P : Program) (fn : Func) : Res → Option (D × H)
  | some (.normal, ts, h) | some (.ret, ts, h) => match resD P h ts fn.results.toList with
    | some l => some (oneD l, h)
    | none => none
  | _ => none
def afun (P : Program) (E : Env) (n : Nat) (k : FuncId) (ds : List D) (h : H) : Option (D × H) :=
  match P.funcs[k]? with
  | some fn => match fn.body with
    | some c => if (fn.name == "runtime.NumGoroutine") = false then aret P fn (aexec P E n c (ds ++ List.replicate (fn.ntmps - ds.length) (.raw undef)) h) else none
    | none => none
  | none => none
def resOf (tmps : Array Value) : ResultVar → Sem Value
  | .tmp t => Pure.pure (tmps.getD t undef)
  | .cell t ty => do loadVar ty (← asAddr (tmps.getD t undef))
theorem resD_sound {C : Cx} {h : H} {w : World} (s : Sim C h w) {ts : List D} {a : Act} (ta : TA C w ts a) : ∀ {rs : List ResultVar} {l : List D}, resD P h ts rs = some l →
    ∃ vs : List Value, (rs.mapM (resOf a.tmps)).run P w = .ok vs w ∧ RdL C w l vs
  | [], l, e => by
    simp only [resD, Option.some.injEq] at e
    subst e
    exact ⟨[], rfl, rfl⟩
  | .tmp t :: r, l, e => by
    simp only [resD] at e
    split at e
    · rename_i l' h1
      cases e
      obtain ⟨vs, k1, k2⟩ := resD_sound s ta h1
      have := ta.reads (.tmp t)
      simp only [dv, Act.eval] at this
      refine ⟨_ :: vs, ?_, _, vs, rfl, this, k2⟩
      rw [List.mapM_cons]
      have h0 : (resOf a.tmps (.tmp t)).run P w = .ok (a.tmps.getD t undef) w := rfl
      simp only [Sem.run_bind, Sem.run_pure, Result.andThen_ok, h0, k1]
    · cases e
  | .cell t ty :: r, l, e => by
    simp only [resD] at e
    split at e
    · rename_i d l' h0 h1
      cases e
      obtain ⟨vs, k1, k2⟩ := resD_sound s ta h1
      have hr := ta.reads (.tmp t)
      simp only [dv, Act.eval] at hr
      obtain ⟨v, j1, j2⟩ := loadD_sound s hr h0
      refine ⟨v :: vs, ?_, v, vs, rfl, j2, k2⟩
      rw [List.mapM_cons]
      simp only [Instr.loadAt, Sem.run_bind] at j1
      have : ∃ p, a.tmps.getD t undef = .pointer (some p) := by
        cases hv : a.tmps.getD t undef with
        | pointer p => cases p with
          | some p => exact ⟨p, rfl⟩
          | none => rw [hv] at j1; simp [Instr.sureAddr, Result.andThen] at j1
        | _ => rw [hv] at j1; simp [Instr.sureAddr, Result.andThen] at j1
      obtain ⟨p, hp⟩ := this
      rw [hp] at j1
      simp only [Instr.sureAddr, Sem.run_pure, Result.andThen_ok] at j1
      have h2 : (resOf a.tmps (.cell t ty)).run P w = .ok v w := by
        show ((do loadVar ty (← asAddr (a.tmps.getD t undef))) : Sem Value).run P w = _
        rw [hp]
        simp only [asAddr, Sem.run_bind, Sem.run_pure, Result.andThen_ok, j1]
      simp only [Sem.run_bind, Sem.run_pure, Result.andThen_ok, h2, k1]
    · cases e
theorem run_results {w : World} {fn : Func} {tmps : Array Value} {vs : List Value} (h : (fn.results.toList.mapM (resOf tmps)).run P w = .ok vs w) : (results fn tmps).run P w = .ok (if h : vs.toArray.size = 1 then vs.toArray[0] else .tuple vs.toArray) w := by
  have e : results fn tmps = (do
      let vs ← fn.results.mapM (resOf tmps)
      Pure.pure (if h : vs.size = 1 then vs[0] else .tuple vs)) := rfl
  rw [e, Array.mapM_eq_mapM_toList]
  simp [h]
theorem oneD_rd {C : Cx} {w : World} {l : List D} {vs : List Value} (r : RdL C w l vs) : Rd C w (oneD l) (if h : vs.toArray.size = 1 then vs.toArray[0] else .tuple vs.toArray) := by
  cases l with
  | nil =>
    simp only [RdL] at r
    subst r
    exact ⟨[], rfl, rfl⟩
  | cons d l =>
    cases l with
    | nil =>
      obtain ⟨v, rest, rfl, h1, h2⟩ := r
      simp only [RdL] at h2
      subst h2
      exact h1
    | cons d' l' =>
      have hl := r.len
      have : ¬ vs.toArray.size = 1 := by simp at hl ⊢; omega
      rw [dif_neg this]
      exact ⟨vs, rfl, r⟩
theorem afun_sound {E : Env} (hE : EnvOk P E) {n : Nat} {k : FuncId} {ds : List D} {h h' : H} {d : D} (e : afun P E n k ds h = some (d, h')) : Callable P k ∧ ∀ C w args, Sim C h w → RdL C w ds args → Ret P C w k args d h' := by
  unfold afun at e
  split at e
  · rename_i fn hf
    split at e
    · rename_i c hb
      split at e
      · rename_i hname
        refine ⟨⟨fn, c, hf, hname, hb⟩, fun C w args s r => ?_⟩
        unfold aret at e
        have main : ∀ {ex ts' h1}, aexec P E n c (ds ++ List.replicate (fn.ntmps - ds.length) (.raw undef)) h = some (ex, ts', h1) → (ex = .normal ∨ ex = .ret) → (match resD P h1 ts' fn.results.toList with | some l => some (oneD l, h1) | none => none) = some (d, h') → Ret P C w k args d h' := by
          intro ex ts' h1 hx hex hres
          split at hres
          · rename_i l hl
            cases hres
            refine calls_of_wp hf hb (aexec_sound hE n c hx s (a := { tmps := args.toArray ++ Array.replicate (fn.ntmps - args.toArray.size) undef, defers := [] }) ⟨?_, rfl⟩ fun a' C' w' f' s' t' => ?_)
            · have hl := r.len
              simp only [Array.toList_append, Array.toList_replicate, List.size_toArray, ← hl]
              refine r.app ?_
              have := RdL.raws C w (List.replicate (fn.ntmps - ds.length) undef)
              simpa using this
            · obtain ⟨vs, k1, k2⟩ := resD_sound s' t' hl
              have hpost : bodyPost P fn (fun e w'' => ∃ v C'', e = .returned v ∧ Fw C w C'' w'' ∧ Sim C'' h' w'' ∧ Rd C'' w'' (oneD l) v) .ret a' w' := by
                refine ⟨t'.defers, _, ?_, _, C', rfl, f', s', oneD_rd k2⟩
                exact run_results k1
              rcases hex with rfl | rfl
              · exact hpost
              · exact hpost
          · cases hres
        split at e
        · rename_i ts' h1 hx
          exact main hx (.inl rfl) e
        · rename_i ts' h1 hx
          exact main hx (.inr rfl) e
        · cases e
      · cases e
    · cases e
  · cases e
end
end Go.Proofs.Ytclhomkgphdagaa.Pv

/- The evaluator over unknown data (see NOTES, 'Pw'): a run is worked out as far as it goes; where data must be looked into it stops, and says what is asked. -/
import Derived.Test.YtbfmaicoefefaaaPvN
set_option linter.unusedSimpArgs false
set_option linter.unusedVariables false
/-! ## Part 18 -/
namespace Go.Proofs.Ytbfmaicoefefaaa.Pv
open Go Go.RowKit
abbrev TP := Unit → Program
/-! ### Contracts by relation -/
/-- A call that may turn the boxes: what it comes to is told by Q. -/
def CW (P : Program) (k : FuncId) (ds : List D) (h : H) (Q : D → H → Prop) : Prop :=
  Callable P k ∧ ∀ (C : Cx) (w : World) (args : List Value), Sim C h w → RdL C w ds args →
    Calls P k args.toArray w fun e w' => ∃ v C' d h', e = .returned v ∧ Q d h' ∧ Fw C w C' w' ∧ Sim C' h' w' ∧ Rd C' w' d v
/-- A call that leaves all that was there. -/
def CP (P : Program) (k : FuncId) (ds : List D) (Q : D → Prop) : Prop :=
  Callable P k ∧ ∀ (S : Nat → Nat → Prop) (w : World) (args : List Value), Okay S w → RdL (bare S) w ds args →
    Calls P k args.toArray w fun e w' => ∃ (v : Value) (S' : Nat → Nat → Prop) (d : D), e = .returned v ∧ Q d ∧ Below w.heap.size w w' ∧ (∀ b o, S b o → S' b o) ∧ (∀ b o, S' b o → b < w'.heap.size ∧ (b < w.heap.size → S b o)) ∧ Rd (bare S') w' d v
section
variable {P : Program}
theorem CW.mono {k : FuncId} {ds : List D} {h : H} {Q R : D → H → Prop} (c : CW P k ds h Q) (hq : ∀ d h', Q d h' → R d h') : CW P k ds h R :=
  ⟨c.1, fun C w args s r => (c.2 C w args s r).mono fun e w' ⟨v, C', d, h', h1, h2, h3, h4, h5⟩ => ⟨v, C', d, h', h1, hq d h' h2, h3, h4, h5⟩⟩
theorem CP.mono {k : FuncId} {ds : List D} {Q R : D → Prop} (c : CP P k ds Q) (hq : ∀ d, Q d → R d) : CP P k ds R :=
  ⟨c.1, fun S w args s r => (c.2 S w args s r).mono fun e w' ⟨v, S', d, h1, h2, h3, h4, h5, h6⟩ => ⟨v, S', d, h1, hq d h2, h3, h4, h5, h6⟩⟩
theorem CP.of_yd {k : FuncId} {ds : List D} {d : D} (hc : Callable P k) (y : Yd P k ds d) : CP P k ds (· = d) :=
  ⟨hc, fun S w args hS r => (y S w args hS r).mono fun e w' ⟨v, S', h1, h2, h3, h4, h5⟩ => ⟨v, S', d, h1, rfl, h2, h3, h4, h5⟩⟩
theorem CP.yd {k : FuncId} {ds : List D} {d : D} (c : CP P k ds (· = d)) : Yd P k ds d := fun S w args hS r =>
  (c.2 S w args hS r).mono fun e w' ⟨v, S', d', h1, h2, h3, h4, h5, h6⟩ => ⟨v, S', h1, h3, h4, h5, h2 ▸ h6⟩
theorem CP.cw {k : FuncId} {ds es : List D} {h : H} {Q : D → Prop} (c : CP P k es Q) (hes : pureL ds = some es) (hd : ∀ d, Q d → pureD d = some d) : CW P k ds h fun d h' => Q d ∧ h' = h := by
  refine ⟨c.1, fun C w args s r => ?_⟩
  refine (c.2 C.S w args s.S (pureL_rd (C := C) (C' := bare C.S) (fun _ _ h => h) ds hes r)).mono ?_
  rintro e' w' ⟨v, S', d, h1, hq, h2, h3, h4, h5⟩
  obtain ⟨f, s'⟩ := Fw.pure s h2 h4
  exact ⟨v, _, d, h, h1, ⟨hq, rfl⟩, f, s', pureD_rd (C := bare S') (C' := { C with S := fun b o => C.S b o ∨ S' b o }) (fun _ _ h => Or.inr h) d (hd d hq) h5⟩
theorem CW.cp {k : FuncId} {ds : List D} {R : D → H → Prop} {Q : D → Prop} (c : CW P k ds [] R) (hd : ∀ d h', R d h' → ∃ d', pureD d = some d' ∧ Q d') : CP P k ds Q := by
  refine ⟨c.1, fun S w args hS r => ?_⟩
  refine (c.2 (bare S) w args (bare_sim hS) r).mono ?_
  rintro e' w' ⟨v, C', d, h', h1, hq, f, s', h2⟩
  obtain ⟨d', k1, k2⟩ := hd d h' hq
  refine ⟨v, C'.S, d', h1, k2, ⟨f.os, f.tape, f.output, f.size, fun b hb => f.frame b hb fun id => bare_blk⟩, f.sub, fun b o hs => ⟨s'.S b o hs, fun hb => ?_⟩, pureD_rd (C := C') (C' := bare C'.S) (fun _ _ h => h) d k1 h2⟩
  rcases f.new b o hs hb with h3 | ⟨id, h3⟩
  · exact h3
  · exact absurd h3 bare_blk
theorem CW.of_ret {k : FuncId} {ds : List D} {h h' : H} {d : D} (hc : Callable P k) (hr : ∀ C w args, Sim C h w → RdL C w ds args → Ret P C w k args d h') : CW P k ds h fun d1 h1 => d1 = d ∧ h1 = h' :=
  ⟨hc, fun C w args s r => (hr C w args s r).mono fun e w' ⟨v, C', h1, h2, h3, h4⟩ => ⟨v, C', d, h', h1, ⟨rfl, rfl⟩, h2, h3, h4⟩⟩
end
/-! ### Where a run stops -/
structure CallK (T : TP) (k : FuncId) (ds : List D) (h : H) (K : D → H → Prop) : Prop where
  out : ∃ Q, CW (T ()) k ds h Q ∧ ∀ d h', Q d h' → K d h'
structure TCallK (T : TP) (k : FuncId) (ds : List D) (h : H) (K : D → H → Prop) : Prop where
  out : ∃ d h', CW (T ()) k ds h (fun a b => a = d ∧ b = h') ∧ K d h'
structure PCallK (T : TP) (k : FuncId) (ds : List D) (K : D → Prop) : Prop where
  out : ∃ es d, pureL ds = some es ∧ pureD d = some d ∧ CP (T ()) k es (· = d) ∧ K d
structure BinK (T : TP) (o : BinOp) (t : TypeId) (x y : Operand) (v u : Value) (K : D → Prop) : Prop where
  out : ∃ r, pureRun (T ()) (do eqGuard o t x y v u; binOp o t v u : Sem Value) = some r ∧ K (.raw r)
structure UnK (T : TP) (o : UnOp) (v : Value) (K : D → Prop) : Prop where
  out : ∃ r, pureRun (T ()) (Op.unary o v) = some r ∧ K (.raw r)
structure RIdxK (T : TP) (t : TypeId) (v u : Value) (K : D → Prop) : Prop where
  out : ∃ r, pureRun (T ()) (Instr.index t v u) = some r ∧ K (.raw r)
structure RSlK (T : TP) (t : TypeId) (v : Value) (lo hi : Option Value) (K : D → Prop) : Prop where
  out : ∃ r, pureRun (T ()) (Instr.sliceAt t v lo hi none) = some r ∧ K (.raw r)
structure ConvK (T : TP) (s d : TypeId) (v : Value) (K : D → Prop) : Prop where
  out : ∃ r, pureRun (T ()) (convert s d v) = some r ∧ K (.raw r)
structure ConvDK (T : TP) (s d : TypeId) (x : D) (K : D → Prop) : Prop where
  out : ∃ r, convD (T ()) s d x = some r ∧ K r
structure BuiltK (T : TP) (b : Builtin) (ts : Array TypeId) (t : TypeId) (cs : Array Bool) (vs : List Value) (K : D → Prop) : Prop where
  out : ∃ r, pureRun (T ()) (builtin b ts t cs vs.toArray) = some (.value r) ∧ K (.raw r)
structure IdxK (ds : List D) (n : Int) (K : D → Prop) : Prop where
  out : 0 ≤ n ∧ ∃ d, ds[n.toNat]? = some d ∧ K d
structure MIdxK (n : Int) (len : Nat) (K : Nat → Prop) : Prop where
  out : 0 ≤ n ∧ n.toNat < len ∧ K n.toNat
structure LenK (ds : List D) (K : Int → Prop) : Prop where
  out : K (ds.length : Int)
structure LenNK (n : Nat) (K : Int → Prop) : Prop where
  out : K (n : Int)
structure SlK (ds : List D) (lo hi : Option D) (K : List D → Prop) : Prop where
  out : ∃ l k, boundD lo 0 = some l ∧ boundD hi ds.length = some k ∧ l ≤ k ∧ k ≤ ds.length ∧ K ((ds.take k).drop l)
structure AppK (T : TP) (h : H) (t tx : TypeId) (s x : D) (K : D → H → Prop) : Prop where
  out : ∃ d h', appendD (T ()) h t tx s x = some (d, h') ∧ K d h'
structure HAppK (T : TP) (t tx : TypeId) (s : HD) (x : D) (K : HD → Prop) : Prop where
  out : ∃ d, hAppend (T ()) t tx s x = some d ∧ K d
/-- A truth that is known is followed at once; one that is not holds the run up, and is told apart by who proves. -/
def bcase (b : Bool) (A B : Unit → Prop) : Prop := match b with
  | true => A ()
  | false => B ()
def gcase (b want : Bool) (A B : Unit → Prop) : Prop := match b, want with
  | true, true => A ()
  | false, false => A ()
  | true, false => B ()
  | false, true => B ()
theorem gcase_eq {b want : Bool} {A B : Unit → Prop} (e : gcase b want A B) : if (b == want) = true then A () else B () := by
  cases b <;> cases want <;> exact e
theorem bcase_eq {b : Bool} {A B : Unit → Prop} (e : bcase b A B) : if b = true then A () else B () := by
  cases b <;> exact e
theorem gcase_of {b want : Bool} {A B : Unit → Prop} (e : if (b == want) = true then A () else B ()) : gcase b want A B := by
  cases b <;> cases want <;> exact e
structure MLoadK (T : TP) (t : TypeId) (ds : List D) (sz j fld : Nat) (K : D → Prop) : Prop where
  out : ∃ d, partD (T ()) t ds (fld + j * sz) = some d ∧ K d
structure MStoreK (es : List D) (size : Nat) (ds : List D) (sz j fld : Nat) (K : List D → Prop) : Prop where
  out : (es.length = size ∧ fld + j * sz + es.length ≤ ds.length ∧ es.all leafD = true) ∧ K (splice ds (fld + j * sz) es)
structure MakeK (T : TP) (h : H) (t : TypeId) (l c : D) (K : D → H → Prop) : Prop where
  out : ∃ d h', makeD (T ()) h t l c = some (d, h') ∧ K d h'
def rawL : List D → Option (List Value)
  | [] => some []
  | .raw v :: r => match rawL r with | some vs => some (v :: vs) | none => none
  | _ :: _ => none
def rawO : Option D → Option (Option Value)
  | none => some none
  | some (.raw v) => some (some v)
  | some _ => none
def isC : Operand → Bool
  | .const _ => true
  | _ => false
/-! ### Operations that leave the boxes -/
def wlen (T : TP) (t ty : TypeId) (cs : Array Bool) (x : D) (K : D → Prop) : Prop :=
  match x with
  | .sl _ _ ds => match (T ()).underlying t with
    | some (.slice _) => LenK ds fun n => K (.raw (.int .i64 n))
    | _ => False
  | .raw v => BuiltK T .len #[t] ty cs [v] K
  | .ms _ _ n => match (T ()).underlying t with
    | some (.slice _) => LenNK n fun n => K (.raw (.int .i64 n))
    | _ => False
  | .sln n => match (T ()).underlying t with
    | some (.slice _) => LenNK n fun n => K (.raw (.int .i64 n))
    | _ => False
  | _ => match lenD (T ()) t x with
    | some d => K d
    | none => False
def widx (T : TP) (t : TypeId) (x i : D) (K : D → Prop) : Prop :=
  match elemP (T ()) t, x, i with
  | some (_, inf), .sl _ sz ds, .raw (.int _ n) => if inf.size = sz then IdxK ds n (fun d => K (.pe d 0)) else False
  | some (_, inf), .ms id off len, .raw (.int _ n) => MIdxK n len (fun j => K (.mp id inf.size j off))
  | _, _, _ => False
def wslice (T : TP) (t : TypeId) (x : D) (lo hi : Option D) (K : D → Prop) : Prop :=
  match x with
  | .sl _ sz ds => match elemP (T ()) t with
    | some (_, inf) => if inf.size = sz then SlK ds lo hi (fun l => K (.sl none sz l)) else False
    | none => False
  | .raw v => match rawO lo, rawO hi with
    | some l, some k => RSlK T t v l k K
    | _, _ => False
  | _ => match sliceD (T ()) t x lo hi with
    | some d => K d
    | none => False
def wsop (T : TP) (ρ : Operand → D) (o : Oper) (h : H) (K : D → Prop) : Prop :=
  match o.op with
  | .pick c a b => match ρ c with
    | .raw (.bool t) => bcase t (fun _ => K (ρ a)) (fun _ => K (ρ b))
    | _ => False
  | .binOp op t x y _ => match ρ x, ρ y with
    | .raw v, .raw u => BinK T op t x y v u K
    | dx, dy => match aggV dx, aggV dy with
      | some v, some u => BinK T op t x y v u K
      | _, _ => False
  | .unOp op _ x => match ρ x with
    | .raw (.bool b) => match op with
      | .not => bcase b (fun _ => K (.raw (.bool false))) (fun _ => K (.raw (.bool true)))
      | _ => False
    | .raw v => UnK T op v K
    | _ => False
  | .indexAddr t x i => widx T t (ρ x) (ρ i) K
  | .load t a => match ρ a with
    | .mp id sz j fld => match h[id]? with
      | some (.box _ ds) => MLoadK T t ds sz j fld K
      | _ => False
    | x => match loadD (T ()) h t x with
      | some d => K d
      | none => False
  | .index t x i => match ρ x, ρ i with
    | .raw v, .raw u => RIdxK T t v u K
    | _, _ => False
  | .slice t x lo hi none => wslice T t (ρ x) (lo.map ρ) (hi.map ρ) K
  | .convert s d x => match ρ x with
    | .raw v => ConvK T s d v K
    | y => ConvDK T s d y K
  | .call c => match c.callee with
    | .builtin .len => if c.args.size = 1 ∧ c.argTypes.size = 1 then wlen T (c.argTypes.getD 0 0) o.type (c.args.map isC) (ρ (c.args.getD 0 (.const undef))) K else False
    | .builtin b => match rawL (c.args.toList.map ρ) with
      | some vs => BuiltK T b c.argTypes o.type (c.args.map isC) vs K
      | none => False
    | _ => False
  | _ => match sop (T ()) ρ o h with
    | some d => K d
    | none => False
section
variable {T : TP}
theorem pureRun_bind {α β : Type} {P : Program} : ∀ {s : Sem α} {f : α → Sem β} {a : α}, pureRun P s = some a → pureRun P (s >>= f) = pureRun P (f a)
  | .pure b, f, a, h => by simp only [pureRun, Option.some.injEq] at h; subst h; rfl
  | .program k, f, a, h => by simp only [pureRun] at h; exact pureRun_bind (s := k P) h
  | .mark _ k, f, a, h => by simp only [pureRun] at h; exact pureRun_bind (s := k) h
  | .load .., _, _, h | .store .., _, _, h | .new .., _, _, h | .shape .., _, _, h | .freeze .., _, _, h | .frozen .., _, _, h | .getObj .., _, _, h | .setObj .., _, _, h | .choose .., _, _, h | .sys .., _, _, h | .halt _, _, _, h => by simp [pureRun] at h
theorem rawOp_of {P : Program} {ρ : Operand → D} {o : Oper} {r : Value} (h1 : ∀ x ∈ o.op.operands, ∃ v, ρ x = .raw v) (h2 : isSelect o.op = false) (h3 : pureRun P (execOp (fun x => rawV (ρ x)) o) = some (.value r)) : rawOp P ρ o = some (.raw r) := by
  unfold rawOp
  have : (o.op.operands.all (fun x => isRaw (ρ x)) && !isSelect o.op) = true := by
    rw [h2]
    simp only [Bool.not_false, Bool.and_true]
    refine Array.all_eq_true_iff_forall_mem.2 fun x hx => ?_
    obtain ⟨v, hv⟩ := h1 x hx
    rw [hv]
    rfl
  rw [if_pos this, h3]
theorem pure_value {P : Program} {s : Sem Value} {r : Value} (h : pureRun P s = some r) : pureRun P (do pure (.value (← s)) : Sem Next) = some (.value r) := by
  rw [pureRun_bind h]
  rfl
theorem builtin_run {P : Program} {ρ : Operand → Value} {o : Oper} {c : Call} {b : Builtin} (ho : o.op = .call c) (hc : c.callee = .builtin b) : pureRun P (execOp ρ o) = pureRun P (builtin b c.argTypes o.type (c.args.map isC) (c.args.map ρ)) := by
  have he : (fun x => match x with | Operand.const _ => true | _ => false) = isC := by funext x; cases x <;> rfl
  have hr : resolve ρ c o.type = pure { target := .builtin b c.argTypes o.type (c.args.map isC), args := c.args.map ρ } := by
    unfold resolve
    rw [hc, ← he]
    rfl
  simp only [execOp, ho, hr]
  rfl
theorem rawL_spec : ∀ {ds : List D} {vs : List Value}, rawL ds = some vs → ds = vs.map D.raw
  | [], vs, e => by simp only [rawL, Option.some.injEq] at e; subst e; rfl
  | .raw v :: r, vs, e => by
    simp only [rawL] at e
    split at e
    · rename_i vs' h
      cases e
      simp [rawL_spec h]
    · cases e
  | .any :: _, _, e | .agg _ :: _, _, e | .tup _ :: _, _, e | .sl _ _ _ :: _, _, e | .bx _ _ :: _, _, e | .ms _ _ _ :: _, _, e | .mp _ _ _ _ :: _, _, e | .sln _ :: _, _, e | .pe _ _ :: _, _, e | .fn _ _ _ :: _, _, e | .ifc _ _ :: _, _, e => by simp [rawL] at e
theorem rawO_spec {ρ : Operand → D} {x : Option Operand} {v : Option Value} (e : rawO (x.map ρ) = some v) : x.map (fun y => rawV (ρ y)) = v ∧ ∀ y, x = some y → ∃ u, ρ y = .raw u := by
  cases x with
  | none => simp only [Option.map_none, rawO, Option.some.injEq] at e; subst e; exact ⟨rfl, fun y h => (by cases h)⟩
  | some y =>
    simp only [Option.map_some, rawO] at e
    split at e
    · rename_i h; cases h
    · rename_i u h
      cases e
      simp only [Option.some.injEq] at h
      refine ⟨by simp [h, rawV], fun z hz => ?_⟩
      cases hz
      exact ⟨_, h⟩
    · cases e
theorem wsop_ok {ρ : Operand → D} {o : Oper} {h : H} {K : D → Prop} (e : wsop T ρ o h K) : ∃ d, sop (T ()) ρ o h = some d ∧ K d := by
  unfold wsop at e
  split at e
  · rename_i c a b ho
    split at e
    · rename_i t hc
      cases t with
      | true => exact ⟨_, by simp only [sop, ho, hc, if_true], e⟩
      | false => exact ⟨_, by simp only [sop, ho, hc, Bool.false_eq_true, if_false], e⟩
    · exact e.elim
  · rename_i op t x y t' ho
    split at e
    · rename_i v u hx hy
      obtain ⟨r, h1, h2⟩ := e.out
      refine ⟨_, ?_, h2⟩
      have : rawOp (T ()) ρ o = some (.raw r) := by
        refine rawOp_of (fun z hz => ?_) (by rw [ho]; rfl) ?_
        · rw [ho] at hz
          simp [Op.operands] at hz
          rcases hz with rfl | rfl
          · exact ⟨_, hx⟩
          · exact ⟨_, hy⟩
        · simp only [execOp, ho, hx, hy, rawV]
          exact pure_value h1
      simp only [sop, ho, hx, hy, aggBin, aggV, orRaw]
      exact this
    · split at e
      · rename_i v u hv hu
        obtain ⟨r, h1, h2⟩ := e.out
        refine ⟨_, ?_, h2⟩
        simp only [sop, ho, orRaw, aggBin, hv, hu, h1]
      · exact e.elim
  · rename_i op t x ho
    split at e
    · rename_i b hx
      split at e
      · have key : ∀ r, pureRun (T ()) (Op.unary .not (.bool b)) = some r → sop (T ()) ρ o h = some (.raw r) := fun r h1 => by
          have : rawOp (T ()) ρ o = some (.raw r) := by
            refine rawOp_of (fun z hz => ?_) (by rw [ho]; rfl) ?_
            · rw [ho] at hz
              simp [Op.operands] at hz
              subst hz
              exact ⟨_, hx⟩
            · simp only [execOp, ho, hx, rawV]
              exact pure_value h1
          simp only [sop, ho]
          exact this
        cases b with
        | true => exact ⟨_, key (.bool false) rfl, e⟩
        | false => exact ⟨_, key (.bool true) rfl, e⟩
      · exact e.elim
    · rename_i v hv hx
      obtain ⟨r, h1, h2⟩ := e.out
      refine ⟨_, ?_, h2⟩
      have : rawOp (T ()) ρ o = some (.raw r) := by
        refine rawOp_of (fun z hz => ?_) (by rw [ho]; rfl) ?_
        · rw [ho] at hz
          simp [Op.operands] at hz
          subst hz
          exact ⟨_, hx⟩
        · simp only [execOp, ho, hx, rawV]
          exact pure_value h1
      simp only [sop, ho]
      exact this
    · exact e.elim
  · rename_i t x i ho
    unfold widx at e
    split at e
    · rename_i et inf tag sz ds k n he hx hi
      split at e
      · rename_i hs
        obtain ⟨h1, d, h2, h3⟩ := e.out
        exact ⟨_, by simp [sop, ho, indexD, he, hx, hi, h1, hs, h2], h3⟩
      · exact e.elim
    · rename_i et inf id off len k n he hx hi
      obtain ⟨h1, h2, h3⟩ := e.out
      exact ⟨_, by simp [sop, ho, indexD, he, hx, hi, h1, h2], h3⟩
    · exact e.elim
  · rename_i t a ho
    split at e
    · rename_i id sz j fld ha
      split at e
      · rename_i bt ds hb
        obtain ⟨d, h1, h2⟩ := e.out
        exact ⟨d, by simp only [sop, ho, loadD, ha, hb, h1], h2⟩
      · exact e.elim
    · split at e
      · rename_i d hd
        exact ⟨d, by simp only [sop, ho, hd], e⟩
      · exact e.elim
  · rename_i t x i ho
    split at e
    · rename_i v u hx hi
      obtain ⟨r, h1, h2⟩ := e.out
      refine ⟨_, ?_, h2⟩
      have : rawOp (T ()) ρ o = some (.raw r) := by
        refine rawOp_of (fun z hz => ?_) (by rw [ho]; rfl) ?_
        · rw [ho] at hz
          simp [Op.operands] at hz
          rcases hz with rfl | rfl
          · exact ⟨_, hx⟩
          · exact ⟨_, hi⟩
        · simp only [execOp, ho, hx, hi, rawV]
          exact pure_value h1
      simp only [sop, ho]
      exact this
    · exact e.elim
  · rename_i t x lo hi ho
    unfold wslice at e
    split at e
    · rename_i tag sz ds hx
      split at e
      · rename_i et inf he
        split at e
        · rename_i hs
          obtain ⟨l, k, h1, h2, h3, h4, h5⟩ := e.out
          exact ⟨_, by simp [sop, ho, sliceD, he, hx, h1, h2, h3, h4, hs, orRaw], h5⟩
        · exact e.elim
      · exact e.elim
    · rename_i v hx
      split at e
      · rename_i l k hl hk
        obtain ⟨r, h1, h2⟩ := e.out
        obtain ⟨l1, l2⟩ := rawO_spec hl
        obtain ⟨k1, k2⟩ := rawO_spec hk
        refine ⟨_, ?_, h2⟩
        have : rawOp (T ()) ρ o = some (.raw r) := by
          refine rawOp_of (fun z hz => ?_) (by rw [ho]; rfl) ?_
          · rw [ho] at hz
            simp [Op.operands] at hz
            rcases hz with rfl | hz
            · exact ⟨_, hx⟩
            · cases lo with
              | none =>
                cases hi with
                | none => simp at hz
                | some y => simp at hz; subst hz; exact k2 _ rfl
              | some x' =>
                cases hi with
                | none => simp at hz; subst hz; exact l2 _ rfl
                | some y =>
                  simp at hz
                  rcases hz with rfl | rfl
                  · exact l2 _ rfl
                  · exact k2 _ rfl
          · have hx' : rawV (ρ x) = v := by rw [hx]; rfl
            simp only [execOp, ho, hx', l1, k1, Option.map_none]
            exact pure_value h1
        have hno : sliceD (T ()) t (ρ x) (lo.map ρ) (hi.map ρ) = none := by
          unfold sliceD
          rw [hx]
          split <;> simp_all
        simp only [sop, ho, hno, orRaw]
        exact this
      · exact e.elim
    · split at e
      · rename_i d hd
        exact ⟨d, by simp only [sop, ho, hd, orRaw], e⟩
      · exact e.elim
  · rename_i s d x ho
    split at e
    · rename_i v hx
      obtain ⟨r, h1, h2⟩ := e.out
      refine ⟨_, ?_, h2⟩
      have : rawOp (T ()) ρ o = some (.raw r) := by
        refine rawOp_of (fun z hz => ?_) (by rw [ho]; rfl) ?_
        · rw [ho] at hz
          simp [Op.operands] at hz
          subst hz
          exact ⟨_, hx⟩
        · simp only [execOp, ho, hx, rawV]
          exact pure_value h1
      have hno : convD (T ()) s d (ρ x) = none := by
        unfold convD
        rw [hx]
        split <;> simp_all
      simp only [sop, ho, hno, orRaw]
      exact this
    · obtain ⟨r, h1, h2⟩ := e.out
      exact ⟨r, by simp only [sop, ho, h1, orRaw], h2⟩
  · rename_i c ho
    split at e
    · rename_i hc
      split at e
      · rename_i hsz
        unfold wlen at e
        split at e
        · rename_i tag sz ds hx
          split at e
          · rename_i et hu
            have hl : lenD (T ()) (c.argTypes.getD 0 0) (ρ (c.args.getD 0 (.const undef))) = some (.raw (.int .i64 ds.length)) := by
              unfold lenD
              rw [hx, hu]
            exact ⟨_, by simp only [sop, ho, hc, if_pos hsz, hl, orRaw], e.out⟩
          · exact e.elim
        · rename_i v hx
          obtain ⟨r, h1, h2⟩ := e.out
          refine ⟨_, ?_, h2⟩
          have hargs := size_one (.const undef) hsz.1
          have htys := size_one 0 hsz.2
          have : rawOp (T ()) ρ o = some (.raw r) := by
            refine rawOp_of (fun z hz => ?_) (by rw [ho]; rfl) ?_
            · rw [ho] at hz
              simp only [Op.operands, Call.operands, hc] at hz
              rw [hargs] at hz
              have hz : z = c.args.getD 0 (.const undef) := by
                generalize c.args.getD 0 (.const undef) = q at hz
                simpa using hz
              subst hz
              exact ⟨_, hx⟩
            · rw [builtin_run ho hc]
              have hm : c.args.map (fun x => rawV (ρ x)) = [v].toArray := by
                rw [hargs]
                generalize c.args.getD 0 (.const undef) = q at hx
                simp [hx, rawV]
              rw [hm, htys]
              exact h1
          have hno : lenD (T ()) (c.argTypes.getD 0 0) (ρ (c.args.getD 0 (.const undef))) = none := by
            unfold lenD
            rw [hx]
            cases (T ()).underlying (c.argTypes.getD 0 0) with
            | none => rfl
            | some d => cases d <;> rfl
          simp only [sop, ho, hc, if_pos hsz, hno, orRaw]
          exact this
        · rename_i id off n hx
          split at e
          · rename_i et hu
            have hl : lenD (T ()) (c.argTypes.getD 0 0) (ρ (c.args.getD 0 (.const undef))) = some (.raw (.int .i64 n)) := by
              unfold lenD
              rw [hx, hu]
            exact ⟨_, by simp only [sop, ho, hc, if_pos hsz, hl, orRaw], e.out⟩
          · exact e.elim
        · rename_i n hx
          split at e
          · rename_i et hu
            have hl : lenD (T ()) (c.argTypes.getD 0 0) (ρ (c.args.getD 0 (.const undef))) = some (.raw (.int .i64 n)) := by
              unfold lenD
              rw [hx, hu]
            exact ⟨_, by simp only [sop, ho, hc, if_pos hsz, hl, orRaw], e.out⟩
          · exact e.elim
        · split at e
          · rename_i d hd
            exact ⟨d, by simp only [sop, ho, hc, if_pos hsz, hd, orRaw], e⟩
          · exact e.elim
      · exact e.elim
    · rename_i b hnl hc
      split at e
      · rename_i vs hvs
        obtain ⟨r, h1, h2⟩ := e.out
        refine ⟨_, ?_, h2⟩
        have hds := rawL_spec hvs
        have : rawOp (T ()) ρ o = some (.raw r) := by
          refine rawOp_of (fun z hz => ?_) (by rw [ho]; rfl) ?_
          · rw [ho] at hz
            simp only [Op.operands, Call.operands, hc] at hz
            have hz' : z ∈ c.args.toList := by
              have hz : z ∈ #[] ++ c.args := hz
              simpa using hz
            have : ρ z ∈ c.args.toList.map ρ := List.mem_map.2 ⟨z, hz', rfl⟩
            rw [hds] at this
            obtain ⟨v, _, hv⟩ := List.mem_map.1 this
            exact ⟨v, hv.symm⟩
          · rw [builtin_run ho hc]
            have hmap : c.args.map (fun x => rawV (ρ x)) = vs.toArray := by
              apply Array.ext'
              rw [Array.toList_map]
              have : c.args.toList.map (fun x => rawV (ρ x)) = (c.args.toList.map ρ).map rawV := by simp [Function.comp_def]
              rw [this, hds]
              simp [Function.comp_def, rawV]
            rw [hmap]
            exact h1
        have hs : sop (T ()) ρ o h = rawOp (T ()) ρ o := by
          unfold sop
          rw [ho]
          simp only [hc]
        rw [hs]
        exact this
      · exact e.elim
    · exact e.elim
  · split at e
    · rename_i d hd
      exact ⟨d, hd, e⟩
    · exact e.elim
/-! ### All operations -/
def isBoxOp : Op → Bool
  | .alloc _ | .box .. | .buildSlice .. | .makeSlice .. | .store .. => true
  | _ => false
def wbox (T : TP) (own : Bool) (ρ : Operand → D) (o : Oper) (h : H) (K : D → H → Prop) : Prop :=
  match o.op with
  | .makeSlice t l c => MakeK T h t (ρ l) (ρ c) K
  | .store t a x => match ρ a with
    | .mp id sz j fld => match h[id]?, cellsD (ρ x), (T ()).info? t with
      | some (.box bt ds), some es, some i => MStoreK es i.size ds sz j fld fun ds' => K .any (h.set id (.box bt ds'))
      | _, _, _ => False
    | _ => match aop (T ()) noCall own ρ o h with
      | some (d, h') => K d h'
      | none => False
  | _ => match aop (T ()) noCall own ρ o h with
    | some (d, h') => K d h'
    | none => False
theorem wbox_ok {own : Bool} {ρ : Operand → D} {o : Oper} {h : H} {K : D → H → Prop} (e : wbox T own ρ o h K) : ∃ d h', aop (T ()) noCall own ρ o h = some (d, h') ∧ K d h' := by
  unfold wbox at e
  split at e
  · rename_i t l c ho
    obtain ⟨d, h', h1, h2⟩ := e.out
    exact ⟨d, h', by unfold aop; rw [ho]; exact h1, h2⟩
  · rename_i t a x ho
    split at e
    · rename_i id sz j fld ha
      split at e
      · rename_i bt ds es i hb hc hi
        obtain ⟨h1, h2⟩ := e.out
        refine ⟨.any, _, ?_, h2⟩
        unfold aop
        rw [ho]
        simp only [storeD, ha, storeAtD, hb, hc, hi, if_pos h1]
      · exact e.elim
    · split at e
      · rename_i d h' hd
        exact ⟨d, h', hd, e⟩
      · exact e.elim
  · split at e
    · rename_i d h' hd
      exact ⟨d, h', hd, e⟩
    · exact e.elim
def wop (T : TP) (own : Bool) (ρ : Operand → D) (o : Oper) (h : H) (K : D → H → Prop) : Prop :=
  if isBoxOp o.op = true then wbox T own ρ o h K
  else match o.op with
  | .call c => match c.callee with
    | .builtin .append => if c.args.size = 2 ∧ c.argTypes.size = 2 then AppK T h (c.argTypes.getD 0 0) (c.argTypes.getD 1 0) (ρ (c.args.getD 0 (.const undef))) (ρ (c.args.getD 1 (.const undef))) K else False
    | .value f => match fnD (ρ f) with
      | some (k, first, cap) => CallK T k (first ++ c.args.toList.map ρ ++ cap) h K
      | none => False
    | _ => wsop T ρ o h (fun d => K d h)
  | _ => wsop T ρ o h (fun d => K d h)
theorem aop_of_sop {P : Program} {own : Bool} {ρ : Operand → D} {o : Oper} {h : H} {d : D} (h1 : isBoxOp o.op = false) (h2 : ∀ c, o.op = .call c → ∃ b, c.callee = .builtin b ∧ b ≠ .append) (e : sop P ρ o h = some d) : aop P noCall own ρ o h = some (d, h) := by
  unfold aop
  split
  · rename_i t ho; rw [ho] at h1; cases h1
  · rename_i t x ho; rw [ho] at h1; cases h1
  · rename_i t n p ho; rw [ho] at h1; cases h1
  · rename_i t l c ho; rw [ho] at h1; cases h1
  · rename_i t a x ho; rw [ho] at h1; cases h1
  · rename_i c ho
    obtain ⟨b, hb, hna⟩ := h2 c ho
    split
    · rename_i hc; rw [hb] at hc; cases hc; exact absurd rfl hna
    · rename_i f hc; rw [hb] at hc; cases hc
    · rw [e]; rfl
  · rw [e]; rfl
theorem wop_sound {C : Cx} {h : H} {w : World} (s : Sim C h w) {ρ : Operand → D} {a : Act} (hr : Reads C w ρ a.eval) {o : Oper} {own : Bool} {K : D → H → Prop} (e : wop T own ρ o h K) {R : Act → World → Prop} {Q : Exit → Act → World → Prop}
    (hk : ∀ d h' v C' w', K d h' → Fw C w C' w' → Sim C' h' w' → Rd C' w' d v → R (a.put o.dst v) w') : o.wp (T ()) a w R Q := by
  have viaA : ∀ {d : D} {h' : H}, aop (T ()) noCall own ρ o h = some (d, h') → K d h' → o.wp (T ()) a w R Q := fun {d h'} e1 e2 =>
    aop_sound noCall_ok s hr e1 fun v C' w' f s' r => hk d h' v C' w' e2 f s' r
  have viaS : isBoxOp o.op = false → (∀ c, o.op = .call c → ∃ b, c.callee = .builtin b ∧ b ≠ .append) → wsop T ρ o h (fun d => K d h) → o.wp (T ()) a w R Q := fun h1 h2 e1 => by
    obtain ⟨d, k1, k2⟩ := wsop_ok e1
    exact viaA (aop_of_sop h1 h2 k1) k2
  unfold wop at e
  split at e
  · obtain ⟨d, h', k1, k2⟩ := wbox_ok e
    exact viaA k1 k2
  · rename_i hb
    have hb : isBoxOp o.op = false := by simpa using hb
    split at e
    · rename_i c ho
      split at e
      · rename_i hc
        split at e
        · rename_i hsz
          obtain ⟨d, h', k1, k2⟩ := e.out
          refine viaA ?_ k2
          unfold aop
          rw [ho]
          simp only [hc, if_pos hsz, k1]
        · exact e.elim
      · rename_i f hc
        split at e
        · rename_i k first cap hf
          obtain ⟨Q', ⟨hcal, hret⟩, hq⟩ := e.out
          have hfr := hr f
          obtain ⟨callee, args, argTypes⟩ := c
          simp only at hc
          subst hc
          have hargs : RdL C w (first ++ args.toList.map ρ ++ cap) ((match a.eval f with | .func _ x y => x.toList | _ => []) ++ args.toList.map a.eval ++ (match a.eval f with | .func _ x y => y.toList | _ => [])) ∧ ∃ x y, a.eval f = .func (.func k) x y := by
            unfold fnD at hf
            split at hf
            · rename_i k' x y hv
              cases hf
              rw [hv] at hfr
              simp only [Rd] at hfr
              rw [hfr]
              exact ⟨((RdL.raws C w _).app (hr.map _)).app (RdL.raws C w _), _, _, rfl⟩
            · rename_i k' x y hv
              cases hf
              rw [hv] at hfr
              simp only [Rd] at hfr
              obtain ⟨vs, us, e1, r1, r2⟩ := hfr
              rw [e1]
              exact ⟨(r1.app (hr.map _)).app r2, _, _, rfl⟩
            · cases hf
          obtain ⟨hargs, x, y, hev⟩ := hargs
          rw [hev] at hargs
          have hcalls := hret C w _ s hargs
          have hrun : (execOp a.eval o).run (T ()) w = .ok (.enter k ((x.toList ++ args.toList.map a.eval ++ y.toList).toArray)) w := by
            simp only [execOp, ho, Sem.run_bind, resolve, hev, Deferred.ofValue, Sem.run_pure, Result.andThen_ok, invoke]
            rw [callable_run hcal]
            congr 2
            apply Array.ext'
            simp
          unfold Oper.wp
          rw [hrun]
          refine Calls.mono hcalls ?_
          rintro e' w' ⟨v, C', d, h', rfl, k0, k1, k2, k3⟩
          exact hk d h' v C' w' (hq d h' k0) k1 k2 k3
        · exact e.elim
      · rename_i hna hnv
        cases hcc : c.callee with
        | builtin b => exact viaS hb (fun c' h' => by rw [ho] at h'; cases h'; exact ⟨b, hcc, fun hb' => hna (by rw [hcc, hb'])⟩) e
        | value f => exact absurd hcc (hnv f)
        | invoke r n =>
          unfold wsop at e
          rw [ho] at e
          simp only [hcc] at e
    · rename_i hnc
      exact viaS hb (fun c' h' => absurd h' (hnc c')) e
/-! ### Regions -/
def wlist (T : TP) (ops : Array Oper) : List Oper → List D → H → (List D → H → Prop) → Prop
  | [], ts, h, K => K ts h
  | o :: rest, ts, h, K => match o.guard with
    | none => wop T (ownB ops o) (dv ts) o h fun d h' => wlist T ops rest (putD ts o.dst d) h' K
    | some (j, want) => match (ops[j]?).bind (·.dst) with
      | some t => match ts[t]? with
        | some (.raw (.bool b)) => gcase b want (fun _ => wop T (ownB ops o) (dv ts) o h fun d h' => wlist T ops rest (putD ts o.dst d) h' K) (fun _ => wlist T ops rest (putD ts o.dst (.raw undef)) h K)
        | some (.raw (.tuple _)) => wlist T ops rest (putD ts o.dst (.raw undef)) h K
        | _ => False
      | none => wlist T ops rest (putD ts o.dst (.raw undef)) h K
theorem wlist_sound {ops : Array Oper} {Q : Exit → Act → World → Prop} : ∀ {l : List Oper} {ts : List D} {h : H} {K : List D → H → Prop} {C : Cx} {w : World} {a : Act}, wlist T ops l ts h K → Sim C h w → TA C w ts a →
    (∀ ts' h' a' C' w', K ts' h' → Fw C w C' w' → Sim C' h' w' → TA C' w' ts' a' → Q .normal a' w') → wpList (T ()) ops Q l a w
  | [], ts, h, K, C, w, a, e, s, ta, hk => hk ts h a C w e (Fw.refl _ _) s ta
  | o :: rest, ts, h, K, C, w, a, e, s, ta, hk => by
    unfold wpList
    have yes : wantedD ops ts o = some true → wop T (ownB ops o) (dv ts) o h (fun d h' => wlist T ops rest (putD ts o.dst d) h' K) → wpList (T ()) ops Q (o :: rest) a w := fun hw e1 => by
      unfold wpList
      rw [wantedD_sound ta hw]
      refine .inl (wop_sound s ta.reads e1 fun d h' v C' w' e2 f s' r => ?_)
      exact wlist_sound e2 s' ((ta.mono f.toEv).put r _) fun ts2 h2 a' C2 w2 k f2 s2 t2 => hk ts2 h2 a' C2 w2 k (f.trans f2) s2 t2
    have no : wantedD ops ts o = some false → wlist T ops rest (putD ts o.dst (.raw undef)) h K → wpList (T ()) ops Q (o :: rest) a w := fun hw e1 => by
      unfold wpList
      rw [wantedD_sound ta hw]
      exact wlist_sound e1 s (ta.put (show Rd C w (.raw undef) undef from rfl) _) hk
    have main : wpList (T ()) ops Q (o :: rest) a w := by
      simp only [wlist] at e
      split at e
      · rename_i hg
        exact yes (by simp only [wantedD, hg]) e
      · rename_i j want hg
        split at e
        · rename_i t ht
          split at e
          · rename_i b hb
            have hw : wantedD ops ts o = some (b == want) := by simp only [wantedD, hg, ht, hb]
            have e := gcase_eq e
            split at e
            · rename_i hbw
              exact yes (by rw [hw, hbw]) e
            · rename_i hbw
              exact no (by rw [hw]; simpa using hbw) e
          · rename_i x hb
            exact no (by simp only [wantedD, hg, ht, hb]) e
          · exact e.elim
        · rename_i ht
          exact no (by simp only [wantedD, hg, ht]) e
    unfold wpList at main
    exact main
/-! ### Drawn regions -/
def whop (T : TP) (ρ : Operand → HD) (o : Oper) (h : H) (K : HD → Prop) : Prop :=
  if isBoxOp o.op = true then match hop (T ()) (fun _ _ => none) ρ o h with
    | some d => K d
    | none => False
  else match o.op with
  | .call c => match c.callee with
    | .builtin .append => if c.args.size = 2 ∧ c.argTypes.size = 2 ∧ tmpNe (c.args.getD 0 (.const undef)) (c.args.getD 1 (.const undef)) = true then HAppK T (c.argTypes.getD 0 0) (c.argTypes.getD 1 0) (ρ (c.args.getD 0 (.const undef))) (hdD (ρ (c.args.getD 1 (.const undef)))) K else False
    | .value f => match fnD (hdD (ρ f)) with
      | some (k, first, cap) => PCallK T k (first ++ c.args.toList.map (fun x => hdD (ρ x)) ++ cap) (fun d => K (.d d))
      | none => False
    | _ => wsop T (fun x => hdD (ρ x)) o h (fun d => K (.d d))
  | _ => wsop T (fun x => hdD (ρ x)) o h (fun d => K (.d d))
theorem noPure_ok {P : Program} : PureOk P (fun _ _ => none) := ⟨fun _ _ _ e => (by cases e), fun _ _ _ e => (by cases e)⟩
theorem hop_of_sop {P : Program} {penv : FuncId → List D → Option D} {ρ : Operand → HD} {o : Oper} {h : H} {d : D} (h1 : isBoxOp o.op = false) (h2 : ∀ c, o.op = .call c → ∃ b, c.callee = .builtin b ∧ b ≠ .append) (e : sop P (fun x => hdD (ρ x)) o h = some d) : hop P penv ρ o h = some (.d d) := by
  unfold hop
  split
  · rename_i t ho; rw [ho] at h1; cases h1
  · rename_i t x ho; rw [ho] at h1; cases h1
  · rename_i t n p ho; rw [ho] at h1; cases h1
  · rename_i t a x ho; rw [ho] at h1; cases h1
  · rename_i c ho
    obtain ⟨b, hb, hna⟩ := h2 c ho
    split
    · rename_i hc; rw [hb] at hc; cases hc; exact absurd rfl hna
    · rename_i f hc; rw [hb] at hc; cases hc
    · rw [e]; rfl
  · rw [e]; rfl
theorem whop_ok {ρ : Operand → HD} {o : Oper} {h : H} {K : HD → Prop} (e : whop T ρ o h K) : ∃ d penv, PureOk (T ()) penv ∧ hop (T ()) penv ρ o h = some d ∧ K d := by
  have viaS : isBoxOp o.op = false → (∀ c, o.op = .call c → ∃ b, c.callee = .builtin b ∧ b ≠ .append) → wsop T (fun x => hdD (ρ x)) o h (fun d => K (.d d)) → ∃ d penv, PureOk (T ()) penv ∧ hop (T ()) penv ρ o h = some d ∧ K d := fun h1 h2 e1 => by
    obtain ⟨d, k1, k2⟩ := wsop_ok e1
    exact ⟨.d d, _, noPure_ok, hop_of_sop h1 h2 k1, k2⟩
  unfold whop at e
  split at e
  · split at e
    · rename_i d hd
      exact ⟨d, _, noPure_ok, hd, e⟩
    · exact e.elim
  · rename_i hb
    have hb : isBoxOp o.op = false := by simpa using hb
    split at e
    · rename_i c ho
      split at e
      · rename_i hc
        split at e
        · rename_i hsz
          obtain ⟨d, k1, k2⟩ := e.out
          refine ⟨d, _, noPure_ok, ?_, k2⟩
          unfold hop
          rw [ho]
          simp only [hc, if_pos hsz, k1]
        · exact e.elim
      · rename_i f hc
        split at e
        · rename_i k first cap hf
          obtain ⟨es, d, k1, k2, k3, k4⟩ := e.out
          generalize hds : first ++ c.args.toList.map (fun x => hdD (ρ x)) ++ cap = ds at k1
          classical
          refine ⟨.d d, fun k' ds' => if k' = k ∧ ds' = es then some d else none, ⟨fun k' ds' d' h' => ?_, fun k' ds' d' h' => ?_⟩, ?_, k4⟩
          · split at h'
            · rename_i hh; rw [hh.1]; exact k3.1
            · cases h'
          · split at h'
            · rename_i hh
              cases h'
              rw [hh.1, hh.2]
              exact k3.yd
            · cases h'
          · unfold hop
            rw [ho]
            simp only [hc, hf, hds, pcall, k1, k2, and_self, if_true, Option.map_some]
        · exact e.elim
      · rename_i hna hnv
        cases hcc : c.callee with
        | builtin b => exact viaS hb (fun c' h' => by rw [ho] at h'; cases h'; exact ⟨b, hcc, fun hb' => hna (by rw [hcc, hb'])⟩) e
        | value f => exact absurd hcc (hnv f)
        | invoke r n =>
          unfold wsop at e
          rw [ho] at e
          simp only [hcc] at e
    · rename_i hnc
      exact viaS hb (fun c' h' => absurd h' (hnc c')) e
def whstep (T : TP) (l : List Oper) (n : Nat) (ts : List D) (h : H) (hs : List HD) (o : Oper) (K : HD → Prop) : Prop :=
  match o.guard with
  | none => whop T (hval l n ts hs o) o h K
  | some (j, want) => match dstAt l j, hs[j]? with
    | some _, some (.d (.raw (.bool b))) => gcase b want (fun _ => whop T (hval l n ts hs o) o h K) (fun _ => K (.d (.raw undef)))
    | some _, some (.d (.raw (.tuple _))) => K (.d (.raw undef))
    | _, _ => False
theorem whstep_ok {l : List Oper} {n : Nat} {ts : List D} {h : H} {hs : List HD} {o : Oper} {K : HD → Prop} (e : whstep T l n ts h hs o K) : ∃ d penv, PureOk (T ()) penv ∧ hstep (T ()) penv l n ts h hs o = some d ∧ K d := by
  have yes : hwanted l hs o = some true → whop T (hval l n ts hs o) o h K → ∃ d penv, PureOk (T ()) penv ∧ hstep (T ()) penv l n ts h hs o = some d ∧ K d := fun hw e1 => by
    obtain ⟨d, penv, k1, k2, k3⟩ := whop_ok e1
    exact ⟨d, penv, k1, by simp only [hstep, hw, k2], k3⟩
  have no : hwanted l hs o = some false → K (.d (.raw undef)) → ∃ d penv, PureOk (T ()) penv ∧ hstep (T ()) penv l n ts h hs o = some d ∧ K d := fun hw e1 =>
    ⟨_, _, noPure_ok, by simp only [hstep, hw], e1⟩
  unfold whstep at e
  split at e
  · rename_i hg
    exact yes (by simp only [hwanted, hg]) e
  · rename_i j want hg
    split at e
    · rename_i t b ht hb
      have hw : hwanted l hs o = some (b == want) := by simp only [hwanted, hg, ht, hb]
      have e := gcase_eq e
      split at e
      · rename_i hbw
        exact yes (by rw [hw, hbw]) e
      · rename_i hbw
        exact no (by rw [hw]; simpa using hbw) e
    · rename_i t x ht hb
      exact no (by simp only [hwanted, hg, ht, hb]) e
    · exact e.elim
def whrun (T : TP) (l : List Oper) (n : Nat) (ts : List D) (h : H) : Nat → List HD → (List HD → Prop) → Prop
  | 0, hs, K => K hs
  | r + 1, hs, K => match l[hs.length]? with
    | some o => whstep T l n ts h hs o fun d => whrun T l n ts h r (hs ++ [d]) K
    | none => False
theorem whrun_ok {l : List Oper} {n : Nat} {ts : List D} {h : H} : ∀ {r : Nat} {hs : List HD} {K : List HD → Prop}, whrun T l n ts h r hs K → hs.length + r = n → (∀ i, i < hs.length → ∃ (o : Oper) (d : HD) (penv : FuncId → List D → Option D), PureOk (T ()) penv ∧ l[i]? = some o ∧ hs[i]? = some d ∧ hstep (T ()) penv l n ts h (hs.take i) o = some d) →
    ∃ hs', HRun (T ()) l n ts h hs' ∧ K hs'
  | 0, hs, K, e, hn, hsp => ⟨hs, ⟨by omega, fun i hi => hsp i (by omega)⟩, e⟩
  | r + 1, hs, K, e, hn, hsp => by
    simp only [whrun] at e
    split at e
    · rename_i o ho
      obtain ⟨d, penv, k1, k2, k3⟩ := whstep_ok e
      refine whrun_ok k3 (by simp; omega) fun i hi => ?_
      by_cases hlt : i < hs.length
      · obtain ⟨o', d', penv', j1, j2, j3, j4⟩ := hsp i hlt
        refine ⟨o', d', penv', j1, j2, by rw [List.getElem?_append_left hlt]; exact j3, ?_⟩
        rw [List.take_append_of_le_length (by omega)]
        exact j4
      · have : i = hs.length := by simp at hi; omega
        subst this
        refine ⟨o, d, penv, k1, ho, by rw [List.getElem?_append_right (Nat.le_refl _)]; simp, ?_⟩
        rw [List.take_append_of_le_length (Nat.le_refl _), List.take_of_length_le (Nat.le_refl _)]
        exact k2
    · exact e.elim
def wlstep (T : TP) (l : List Oper) (n : Nat) (ts vs : List D) (h : H) (o : Oper) (K : D → H → Prop) : Prop :=
  let go := if isStoreOp o.op = true then match lstep (T ()) l n ts vs h { o with guard := none } with
      | some (d, h') => K d h'
      | none => False
    else wsop T (lval l n ts vs o) o h fun d => K d h
  match o.guard with
  | none => go
  | some (j, want) => match dstAt l j, vs[j]? with
    | some _, some (.raw (.bool b)) => gcase b want (fun _ => go) (fun _ => K (.raw undef) h)
    | some _, some (.raw (.tuple _)) => K (.raw undef) h
    | _, _ => False
def wlrun (T : TP) (l : List Oper) (n : Nat) (ts : List D) : Nat → List D → List H → H → (List D → List H → H → Prop) → Prop
  | 0, vs, hst, h, K => K vs hst h
  | r + 1, vs, hst, h, K => match l[vs.length]? with
    | some o => wlstep T l n ts vs h o fun d h' => wlrun T l n ts r (vs ++ [d]) (hst ++ [h']) h' K
    | none => False
theorem wlstep_ok {l : List Oper} {n : Nat} {ts vs : List D} {h : H} {o : Oper} {K : D → H → Prop} (e : wlstep T l n ts vs h o K) : ∃ d h', lstep (T ()) l n ts vs h o = some (d, h') ∧ K d h' := by
  have yes : lwanted l vs o = some true → (if isStoreOp o.op = true then match lstep (T ()) l n ts vs h { o with guard := none } with | some (d, h') => K d h' | none => False else wsop T (lval l n ts vs o) o h fun d => K d h) → ∃ d h', lstep (T ()) l n ts vs h o = some (d, h') ∧ K d h' := fun hw e1 => by
    split at e1
    · rename_i hs
      split at e1
      · rename_i d h' hd
        refine ⟨d, h', ?_, e1⟩
        rw [← hd]
        simp only [lstep, hw]
        have hw2 : lwanted l vs { o with guard := none } = some true := rfl
        rw [hw2]
        obtain ⟨dst, op, type, pos, after, guard⟩ := o
        simp only
        cases op <;> first | rfl | (cases hs)
      · exact e1.elim
    · rename_i hs
      obtain ⟨d, k1, k2⟩ := wsop_ok e1
      refine ⟨d, h, ?_, k2⟩
      simp only [lstep, hw]
      split
      · rename_i t a x ho
        rw [ho] at hs
        exact absurd rfl hs
      · rw [k1]
  have no : lwanted l vs o = some false → K (.raw undef) h → ∃ d h', lstep (T ()) l n ts vs h o = some (d, h') ∧ K d h' := fun hw e1 =>
    ⟨_, _, by simp only [lstep, hw], e1⟩
  unfold wlstep at e
  simp only at e
  split at e
  · rename_i hg
    exact yes (by simp only [lwanted, hg]) e
  · rename_i j want hg
    split at e
    · rename_i t b ht hb
      have hw : lwanted l vs o = some (b == want) := by simp only [lwanted, hg, ht, hb]
      have e := gcase_eq e
      split at e
      · rename_i hbw
        exact yes (by rw [hw, hbw]) e
      · rename_i hbw
        exact no (by rw [hw]; simpa using hbw) e
    · rename_i t x ht hb
      exact no (by simp only [lwanted, hg, ht, hb]) e
    · exact e.elim
theorem wlrun_ok {l : List Oper} {n : Nat} {ts : List D} {h0 : H} : ∀ {r : Nat} {vs : List D} {hst : List H} {h : H} {K : List D → List H → H → Prop}, wlrun T l n ts r vs hst h K → vs.length + r = n → hst.length = vs.length + 1 → hst.getD 0 [] = h0 → hst.getD vs.length [] = h →
    (∀ i, i < vs.length → ∃ o d, l[i]? = some o ∧ vs[i]? = some d ∧ lstep (T ()) l n ts (vs.take i) (hst.getD i []) o = some (d, hst.getD (i + 1) [])) → ∃ vs' hst', LRun (T ()) l n ts h0 vs' hst' ∧ K vs' hst' (hst'.getD n [])
  | 0, vs, hst, h, K, e, hn, hl, hz, hh, hsp => by
    have : vs.length = n := by omega
    refine ⟨vs, hst, ⟨this, by omega, hz, fun i hi => hsp i (by omega)⟩, ?_⟩
    rw [← this, hh]
    exact e
  | r + 1, vs, hst, h, K, e, hn, hl, hz, hh, hsp => by
    simp only [wlrun] at e
    split at e
    · rename_i o ho
      obtain ⟨d, h', k1, k2⟩ := wlstep_ok e
      have keep : ∀ q, q < vs.length + 1 → (hst ++ [h']).getD q [] = hst.getD q [] := fun q hq => by simp [List.getD, List.getElem?_append_left (show q < hst.length by omega)]
      have last : (hst ++ [h']).getD (vs.length + 1) [] = h' := by simp [List.getD, List.getElem?_append_right (show hst.length ≤ vs.length + 1 by omega), hl]
      refine wlrun_ok k2 (by simp; omega) (by simp [hl]) (by rw [keep 0 (by omega)]; exact hz) (by simpa using last) fun i hi => ?_
      by_cases hlt : i < vs.length
      · obtain ⟨o', d', j1, j2, j3⟩ := hsp i hlt
        refine ⟨o', d', j1, by rw [List.getElem?_append_left hlt]; exact j2, ?_⟩
        rw [List.take_append_of_le_length (by omega), keep i (by omega), keep (i + 1) (by omega)]
        exact j3
      · have : i = vs.length := by simp at hi; omega
        subst this
        refine ⟨o, d, ho, by rw [List.getElem?_append_right (Nat.le_refl _)]; simp, ?_⟩
        rw [List.take_append_of_le_length (Nat.le_refl _), List.take_of_length_le (Nat.le_refl _), keep _ (by omega), last, hh]
        exact k1
    · exact e.elim
/-! ### A line of operations that turn memory -/
def wturn (T : TP) (own : Bool) (ρ : Operand → D) (o : Oper) (h : H) (K : D → H → Prop) : Prop :=
  if isBoxOp o.op = true then wbox T own ρ o h K
  else match o.op with
  | .call c => match c.callee with
    | .builtin .append => if c.args.size = 2 ∧ c.argTypes.size = 2 then AppK T h (c.argTypes.getD 0 0) (c.argTypes.getD 1 0) (ρ (c.args.getD 0 (.const undef))) (ρ (c.args.getD 1 (.const undef))) K else False
    | .value f => match fnD (ρ f) with
      | some (k, first, cap) => TCallK T k (first ++ c.args.toList.map ρ ++ cap) h K
      | none => False
    | _ => False
  | _ => False
theorem turnsP_of_wop {own : Bool} {ρ : Operand → D} {o : Oper} {h h' : H} {d : D} (e : wop T own ρ o h (fun a b => a = d ∧ b = h')) : TurnsP (T ()) ρ o h d h' := ⟨fun C w a s hr R Q hk => wop_sound s hr e fun d' h'' v C' w' k f s' r => by
  obtain ⟨rfl, rfl⟩ := k
  exact hk v C' w' f s' r⟩
theorem wturn_ok {own : Bool} {ρ : Operand → D} {o : Oper} {h : H} {K : D → H → Prop} (e : wturn T own ρ o h K) : ∃ d h', TurnsP (T ()) ρ o h d h' ∧ K d h' := by
  unfold wturn at e
  split at e
  · obtain ⟨d, h', k1, k2⟩ := wbox_ok e
    exact ⟨d, h', ⟨fun C w a s hr R Q hk => aop_sound noCall_ok s hr k1 fun v C' w' f s' r => hk v C' w' f s' r⟩, k2⟩
  · rename_i hb
    split at e
    · rename_i c ho
      split at e
      · rename_i hc
        split at e
        · rename_i hsz
          obtain ⟨d, h', k1, k2⟩ := e.out
          refine ⟨d, h', turnsP_of_wop (own := own) ?_, k2⟩
          unfold wop
          rw [if_neg hb]
          simp only [ho, hc]
          rw [if_pos hsz]
          exact ⟨d, h', k1, rfl, rfl⟩
        · exact e.elim
      · rename_i f hc
        split at e
        · rename_i k first cap hf
          obtain ⟨d, h', k1, k2⟩ := e.out
          refine ⟨d, h', turnsP_of_wop (own := own) ?_, k2⟩
          unfold wop
          rw [if_neg hb]
          simp only [ho, hc, hf]
          exact ⟨_, k1, fun _ _ h => h⟩
        · exact e.elim
      · exact e.elim
    · exact e.elim
def wtstep (T : TP) (l : List Oper) (n : Nat) (ts vs : List D) (h : H) (o : Oper) (K : D → H → Prop) : Prop :=
  let go := if isTurn o = true then wturn T (ownB l.toArray o) (lval l n ts vs o) o h K else wsop T (lval l n ts vs o) o h fun d => K d h
  match o.guard with
  | none => go
  | some (j, want) => match dstAt l j, vs[j]? with
    | some _, some (.raw (.bool b)) => gcase b want (fun _ => go) (fun _ => K (.raw undef) h)
    | some _, some (.raw (.tuple _)) => K (.raw undef) h
    | _, _ => False
def wtrun (T : TP) (l : List Oper) (n : Nat) (ts : List D) : Nat → List D → List H → H → (List D → List H → H → Prop) → Prop
  | 0, vs, hst, h, K => K vs hst h
  | r + 1, vs, hst, h, K => match l[vs.length]? with
    | some o => wtstep T l n ts vs h o fun d h' => wtrun T l n ts r (vs ++ [d]) (hst ++ [h']) h' K
    | none => False
theorem wtstep_ok {l : List Oper} {n : Nat} {ts vs : List D} {h : H} {o : Oper} {K : D → H → Prop} (e : wtstep T l n ts vs h o K) : ∃ d h', TStep (T ()) l n ts vs h o d h' ∧ K d h' := by
  have yes : lwanted l vs o = some true → (if isTurn o = true then wturn T (ownB l.toArray o) (lval l n ts vs o) o h K else wsop T (lval l n ts vs o) o h fun d => K d h) → ∃ d h', TStep (T ()) l n ts vs h o d h' ∧ K d h' := fun hw e1 => by
    split at e1
    · rename_i hs
      obtain ⟨d, h', k1, k2⟩ := wturn_ok e1
      exact ⟨d, h', .inl ⟨hw, hs, k1⟩, k2⟩
    · rename_i hs
      obtain ⟨d, k1, k2⟩ := wsop_ok e1
      exact ⟨d, h, .inr (.inl ⟨hw, by simpa using hs, k1, rfl⟩), k2⟩
  have no : lwanted l vs o = some false → K (.raw undef) h → ∃ d h', TStep (T ()) l n ts vs h o d h' ∧ K d h' := fun hw e1 =>
    ⟨_, _, .inr (.inr ⟨hw, rfl, rfl⟩), e1⟩
  unfold wtstep at e
  simp only at e
  split at e
  · rename_i hg
    exact yes (by simp only [lwanted, hg]) e
  · rename_i j want hg
    split at e
    · rename_i t b ht hb
      have hw : lwanted l vs o = some (b == want) := by simp only [lwanted, hg, ht, hb]
      have e := gcase_eq e
      split at e
      · rename_i hbw
        exact yes (by rw [hw, hbw]) e
      · rename_i hbw
        exact no (by rw [hw]; simpa using hbw) e
    · rename_i t x ht hb
      exact no (by simp only [lwanted, hg, ht, hb]) e
    · exact e.elim
theorem wtrun_ok {l : List Oper} {n : Nat} {ts : List D} {h0 : H} : ∀ {r : Nat} {vs : List D} {hst : List H} {h : H} {K : List D → List H → H → Prop}, wtrun T l n ts r vs hst h K → vs.length + r = n → hst.length = vs.length + 1 → hst.getD 0 [] = h0 → hst.getD vs.length [] = h →
    (∀ i, i < vs.length → ∃ o d, l[i]? = some o ∧ vs[i]? = some d ∧ TStep (T ()) l n ts (vs.take i) (hst.getD i []) o d (hst.getD (i + 1) [])) → ∃ vs' hst', TRun (T ()) l n ts h0 vs' hst' ∧ K vs' hst' (hst'.getD n [])
  | 0, vs, hst, h, K, e, hn, hl, hz, hh, hsp => by
    have : vs.length = n := by omega
    refine ⟨vs, hst, ⟨this, by omega, hz, fun i hi => hsp i (by omega)⟩, ?_⟩
    rw [← this, hh]
    exact e
  | r + 1, vs, hst, h, K, e, hn, hl, hz, hh, hsp => by
    simp only [wtrun] at e
    split at e
    · rename_i o ho
      obtain ⟨d, h', k1, k2⟩ := wtstep_ok e
      have keep : ∀ q, q < vs.length + 1 → (hst ++ [h']).getD q [] = hst.getD q [] := fun q hq => by simp [List.getD, List.getElem?_append_left (show q < hst.length by omega)]
      have last : (hst ++ [h']).getD (vs.length + 1) [] = h' := by simp [List.getD, List.getElem?_append_right (show hst.length ≤ vs.length + 1 by omega), hl]
      refine wtrun_ok k2 (by simp; omega) (by simp [hl]) (by rw [keep 0 (by omega)]; exact hz) (by simpa using last) fun i hi => ?_
      by_cases hlt : i < vs.length
      · obtain ⟨o', d', j1, j2, j3⟩ := hsp i hlt
        refine ⟨o', d', j1, by rw [List.getElem?_append_left hlt]; exact j2, ?_⟩
        rw [List.take_append_of_le_length (by omega), keep i (by omega), keep (i + 1) (by omega)]
        exact j3
      · have : i = vs.length := by simp at hi; omega
        subst this
        refine ⟨o, d, ho, by rw [List.getElem?_append_right (Nat.le_refl _)]; simp, ?_⟩
        rw [List.take_append_of_le_length (Nat.le_refl _), List.take_of_length_le (Nat.le_refl _), keep _ (by omega), last, hh]
        exact k1
    · exact e.elim
/-! ### Loops -/
/-- What is known at a loop's head may be told more weakly: ids from m on are forgotten. -/
def Wkn (m : Nat) (ts : List D) (h : H) (J : List D → H → Prop) : Prop :=
  ∀ (C0 : Cx) (w0 : World) (C : Cx) (w : World) (a : Act), (∀ id b, C0.bx id = some b → id < m) → (∀ id u, C0.lg id = some u → id < m) → Fw C0 w0 C w → Sim C h w → TA C w ts a →
    ∃ C' ts' h', J ts' h' ∧ Fw C0 w0 C' w ∧ Sim C' h' w ∧ TA C' w ts' a
/-- What is known ahead of a loop, told otherwise. -/
def Ent (ts : List D) (h : H) (J : List D → H → Prop) : Prop :=
  ∀ (C : Cx) (w : World) (a : Act), Sim C h w → TA C w ts a → ∃ C' ts' h', J ts' h' ∧ Fw C w C' w ∧ Sim C' h' w ∧ TA C' w ts' a
structure EndK (Q : D → H → Prop) (d : D) (h : H) : Prop where
  out : Q d h
structure RoundK (m : Nat) (ts : List D) (h : H) (N : Nat) (I : Nat → List D → H → Prop) : Prop where
  out : ∃ N', N' < N ∧ Wkn m ts h (I N')
structure LoopK (dl : List Tmp) (ts : List D) (h : H) (body : List D → H → (AExit → List D → H → Prop) → Prop) (Q : AExit → List D → H → Prop) : Prop where
  out : ∃ (m : Nat) (I : Nat → List D → H → Prop), Ent ts h (fun ts' h' => h'.length ≤ m ∧ ∃ N, I N ts' h') ∧
    ∀ N ts h, I N ts h → body ts h fun ex ts' h' => match ex with
      | .normal => RoundK m (scrub dl ts') h' N I
      | .exit j => Q (.exit j) ts' h'
      | .ret => Q .ret ts' h'
theorem Wkn.refl {m : Nat} {ts : List D} {h : H} {J : List D → H → Prop} (j : J ts h) : Wkn m ts h J := fun C0 w0 C w a _ _ f s ta => ⟨C, ts, h, j, f, s, ta⟩
theorem Wkn.gc {m : Nat} {ts : List D} {h : H} {J : List D → H → Prop} (h1 : idbL m ts = true) (h2 : (h.take m).all (cellIdb m) = true) (k : Wkn m ts (h.take m) J) : Wkn m ts h J := fun C0 w0 C w a hb hl f s ta =>
  k C0 w0 (C.cut m) w a hb hl (f.cut hb hl) (s.cut h2) ⟨ta.rd.cut _ h1, ta.defers⟩
theorem set_rd {C : Cx} {w : World} {ts : List D} {vs : List Value} (h : RdL C w ts vs) {j : Nat} {d d' : D} (hd : ts[j]? = some d) (hr : ∀ v, Rd C w d v → Rd C w d' v) : RdL C w (ts.set j d') vs := by
  obtain ⟨v, h1, h2⟩ := h.get hd
  have := h.set (hr v h2) j
  have e : vs.set j v = vs := by
    apply List.ext_getElem?
    intro i
    rw [List.getElem?_set]
    split
    · rename_i hji
      subst hji
      obtain ⟨hlt, hv⟩ := List.getElem?_eq_some_iff.1 h1
      simp [hlt, hv]
    · rfl
  rwa [e] at this
theorem Wkn.slot {m : Nat} {ts : List D} {h : H} {J : List D → H → Prop} {j : Nat} {d : D} (d' : D) (hd : ts[j]? = some d) (hr : ∀ C w v, Rd C w d v → Rd C w d' v) (k : Wkn m (ts.set j d') h J) : Wkn m ts h J := fun C0 w0 C w a hb hl f s ta =>
  k C0 w0 C w a hb hl f s ⟨set_rd ta.rd hd (hr C w), ta.defers⟩
theorem Ent.refl {ts : List D} {h : H} {J : List D → H → Prop} (j : J ts h) : Ent ts h J := fun C w a s ta => ⟨C, ts, h, j, Fw.refl _ _, s, ta⟩
theorem Ent.slot {ts : List D} {h : H} {J : List D → H → Prop} {j : Nat} {d : D} (d' : D) (hd : ts[j]? = some d) (hr : ∀ C w v, Rd C w d v → Rd C w d' v) (k : Ent (ts.set j d') h J) : Ent ts h J := fun C w a s ta =>
  k C w a s ⟨set_rd ta.rd hd (hr C w), ta.defers⟩
/-- A nil slice, from here on a row of its own. -/
theorem Ent.log {ts : List D} {h : H} {J : List D → H → Prop} {j : Nat} (e sz : Nat) (hd : ts[j]? = some (.raw (.slice none 0 0))) (k : Ent (ts.set j (.sl (some h.length) sz [])) (h ++ [.log e sz 0]) J) : Ent ts h J := fun C w a s ta => by
  obtain ⟨C', f, s', hl⟩ := s.log_nil e sz
  obtain ⟨C2, ts', h', k1, k2, k3, k4⟩ := k C' w a s' ⟨set_rd (ta.rd.mono f.toEv) hd (fun v hv => by
    simp only [Rd] at hv
    subst hv
    exact ⟨⟨none, 0, rfl, Nat.le_refl _, Nat.zero_le _⟩, fun h0 => absurd h0 (Nat.lt_irrefl _), fun id e => by cases e; exact ⟨_, hl, Nat.zero_le _, fun _ => rfl⟩⟩), ta.defers⟩
  exact ⟨C2, ts', h', k1, f.trans k2, k3, k4⟩
/-- One operation, told of the boxes with a new one, and without it. -/
structure PairK (d d' : D) (hT hF : H) (c : Cell) (q0 : Nat) (go : Unit → Prop) : Prop where
  out : (d = d' ∧ hT = hF ++ [c] ∧ hF.length = q0) ∧ go ()
def warun (T : TP) (l : List Oper) (n : Nat) (ts : List D) (dep : List Nat) (i0 q0 : Nat) (c : Cell) (K : List D → List H → List H → H → Prop) : Nat → List D → List H → H → List H → H → Prop
  | 0, vs, hst, hT, hst0, _ => K vs hst hst0 hT
  | r + 1, vs, hst, hT, hst0, hF => match l[vs.length]? with
    | some o => if vs.length = i0 then warun T l n ts dep i0 q0 c K r (vs ++ [.bx q0 0]) (hst ++ [hT]) hT (hst0 ++ [hF]) hF
      else if dep.contains vs.length = true then wtstep T l n ts vs hT o fun d hT' => warun T l n ts dep i0 q0 c K r (vs ++ [d]) (hst ++ [hT']) hT' (hst0 ++ [hF]) hF
      else wtstep T l n ts vs hT o fun d hT' => wtstep T l n ts vs hF o fun d' hF' => PairK d d' hT' hF' c q0 fun _ => warun T l n ts dep i0 q0 c K r (vs ++ [d]) (hst ++ [hT']) hT' (hst0 ++ [hF']) hF'
    | none => False
def FreeA (P : Program) (l : List Oper) (n : Nat) (ts vs : List D) (hst hst0 : List H) (free : List Nat) : Prop := ∀ i, i < n → free.contains i = true → ∀ p, p ≤ n → ∃ o d, l[i]? = some o ∧ vs[i]? = some d ∧ sop P (lval l n ts (vs.take i) o) o (hst.getD p []) = some d ∧ sop P (lval l n ts (vs.take i) o) o (hst0.getD p []) = some d
structure ADoneK (T : TP) (l : List Oper) (n : Nat) (ts vs : List D) (hst hst0 : List H) (i0 : Nat) (free : List Nat) (go : Unit → Prop) : Prop where
  out : ordA l n i0 free = true ∧ FreeA (T ()) l n ts vs hst hst0 free ∧ go ()
structure AF (P : Program) (l : List Oper) (n : Nat) (ts vs : List D) (hst hst0 : List H) (i0 q0 : Nat) (c : Cell) : Prop where
  one : ∀ i, i < vs.length → ∃ o, l[i]? = some o ∧ (i = i0 → vs[i]? = some (.bx q0 0)) ∧ ((isTurn o = false ∨ i = i0) → hst.getD (i + 1) [] = hst.getD i [] ∧ hst0.getD (i + 1) [] = hst0.getD i []) ∧ (i ≠ i0 → ∃ d, vs[i]? = some d ∧ TStep P l n ts (vs.take i) (hst.getD i []) o d (hst.getD (i + 1) []) ∧ (hasA l n i0 i = false → TStep P l n ts (vs.take i) (hst0.getD i []) o d (hst0.getD (i + 1) [])))
  box : ∀ p, p ≤ vs.length → (∀ j o, j < p → l[j]? = some o → isTurn o = true → j ≠ i0 → hasA l n i0 j = false) → hst.getD p [] = hst0.getD p [] ++ [c] ∧ (hst0.getD p []).length = q0
theorem TStep.still {P : Program} {l : List Oper} {n : Nat} {ts vs : List D} {h h' : H} {o : Oper} {d : D} (t : TStep P l n ts vs h o d h') (hs : isTurn o = false) : h' = h := by
  rcases t with ⟨_, h1, _⟩ | ⟨_, _, _, h1⟩ | ⟨_, _, h1⟩
  · rw [hs] at h1
    cases h1
  · exact h1
  · exact h1
theorem AF.push {P : Program} {l : List Oper} {n : Nat} {ts vs : List D} {hst hst0 : List H} {i0 q0 : Nat} {c : Cell} (f : AF P l n ts vs hst hst0 i0 q0 c) (hl : hst.length = vs.length + 1) (hl0 : hst0.length = vs.length + 1) {o : Oper} {d : D} {hT' hF' : H} (ho : l[vs.length]? = some o)
    (h1 : vs.length = i0 → d = .bx q0 0 ∧ hT' = hst.getD vs.length [] ∧ hF' = hst0.getD vs.length []) (h2 : vs.length ≠ i0 → TStep P l n ts vs (hst.getD vs.length []) o d hT') (h3 : vs.length ≠ i0 → hasA l n i0 vs.length = true → hF' = hst0.getD vs.length [])
    (h4 : vs.length ≠ i0 → hasA l n i0 vs.length = false → TStep P l n ts vs (hst0.getD vs.length []) o d hF' ∧ hT' = hF' ++ [c] ∧ hF'.length = q0) : AF P l n ts (vs ++ [d]) (hst ++ [hT']) (hst0 ++ [hF']) i0 q0 c := by
  have keep : ∀ q, q < vs.length + 1 → (hst ++ [hT']).getD q [] = hst.getD q [] := fun q hq => by simp [List.getD, List.getElem?_append_left (show q < hst.length by omega)]
  have last : (hst ++ [hT']).getD (vs.length + 1) [] = hT' := by simp [List.getD, List.getElem?_append_right (show hst.length ≤ vs.length + 1 by omega), hl]
  have keep0 : ∀ q, q < vs.length + 1 → (hst0 ++ [hF']).getD q [] = hst0.getD q [] := fun q hq => by simp [List.getD, List.getElem?_append_left (show q < hst0.length by omega)]
  have last0 : (hst0 ++ [hF']).getD (vs.length + 1) [] = hF' := by simp [List.getD, List.getElem?_append_right (show hst0.length ≤ vs.length + 1 by omega), hl0]
  have still : (isTurn o = false ∨ vs.length = i0) → hT' = hst.getD vs.length [] ∧ hF' = hst0.getD vs.length [] := fun h => by
    by_cases hi : vs.length = i0
    · exact (h1 hi).2
    · have hs := h.resolve_right hi
      refine ⟨(h2 hi).still hs, ?_⟩
      cases hA : hasA l n i0 vs.length with
      | true => exact h3 hi hA
      | false => exact (h4 hi hA).1.still hs
  refine ⟨fun i hi => ?_, fun p hp hj => ?_⟩
  · by_cases hlt : i < vs.length
    · obtain ⟨o', k1, k2, k3, k4⟩ := f.one i hlt
      refine ⟨o', k1, fun e => by rw [List.getElem?_append_left hlt]; exact k2 e, fun e => ?_, fun e => ?_⟩
      · rw [keep i (by omega), keep (i + 1) (by omega), keep0 i (by omega), keep0 (i + 1) (by omega)]
        exact k3 e
      · obtain ⟨d', q1, q2, q3⟩ := k4 e
        refine ⟨d', by rw [List.getElem?_append_left hlt]; exact q1, ?_⟩
        rw [List.take_append_of_le_length (by omega), keep i (by omega), keep (i + 1) (by omega), keep0 i (by omega), keep0 (i + 1) (by omega)]
        exact ⟨q2, q3⟩
    · have hie : i = vs.length := by simp at hi; omega
      subst hie
      have hget : (vs ++ [d])[vs.length]? = some d := by rw [List.getElem?_append_right (Nat.le_refl _)]; simp
      refine ⟨o, ho, fun e => by rw [hget, (h1 e).1], fun e => ?_, fun e => ⟨d, hget, ?_⟩⟩
      · rw [keep vs.length (by omega), last, keep0 vs.length (by omega), last0]
        exact still e
      · rw [List.take_append_of_le_length (Nat.le_refl _), List.take_of_length_le (Nat.le_refl _), keep vs.length (by omega), last, keep0 vs.length (by omega), last0]
        exact ⟨h2 e, fun hA => (h4 e hA).1⟩
  · by_cases hlt : p ≤ vs.length
    · rw [keep p (by omega), keep0 p (by omega)]
      exact f.box p hlt hj
    · have hpe : p = vs.length + 1 := by simp at hp; omega
      subst hpe
      rw [last, last0]
      by_cases hi : vs.length = i0
      · rw [(h1 hi).2.1, (h1 hi).2.2]
        exact f.box _ (Nat.le_refl _) fun j o h1 h2 h3 h4 => hj j o (by omega) h2 h3 h4
      · cases hA : hasA l n i0 vs.length with
        | false => exact (h4 hi hA).2
        | true =>
          have hs : isTurn o = false := by
            cases hs : isTurn o with
            | false => rfl
            | true =>
              have := hj vs.length o (by omega) ho hs hi
              rw [hA] at this
              cases this
          obtain ⟨s1, s2⟩ := still (.inl hs)
          rw [s1, s2]
          exact f.box _ (Nat.le_refl _) fun j o h1 h2 h3 h4 => hj j o (by omega) h2 h3 h4
theorem warun_ok {l : List Oper} {n : Nat} {ts : List D} {dep : List Nat} {i0 q0 : Nat} (hdep : ∀ j, j < n → hasA l n i0 j = dep.contains j) {c : Cell} {K : List D → List H → List H → H → Prop} {h0 : H} : ∀ {r : Nat} {vs : List D} {hst : List H} {hT : H} {hst0 : List H} {hF : H}, warun T l n ts dep i0 q0 c K r vs hst hT hst0 hF → vs.length + r = n → hst.length = vs.length + 1 → hst0.length = vs.length + 1 → hst0.getD 0 [] = h0 → hst.getD vs.length [] = hT → hst0.getD vs.length [] = hF → AF (T ()) l n ts vs hst hst0 i0 q0 c →
    ∃ vs' hst' hst0', vs'.length = n ∧ hst'.length = n + 1 ∧ hst0'.length = n + 1 ∧ hst0'.getD 0 [] = h0 ∧ AF (T ()) l n ts vs' hst' hst0' i0 q0 c ∧ K vs' hst' hst0' (hst'.getD n [])
  | 0, vs, hst, hT, hst0, hF, e, hn, hl, hl0, hz, hh, hh0, f => by
    have : vs.length = n := by omega
    subst this
    refine ⟨vs, hst, hst0, rfl, hl, hl0, hz, f, ?_⟩
    rw [hh]
    exact e
  | r + 1, vs, hst, hT, hst0, hF, e, hn, hl, hl0, hz, hh, hh0, f => by
    have z0 : ∀ x : H, (hst0 ++ [x]).getD 0 [] = h0 := fun x => by
      rw [← hz]
      simp only [List.getD]
      rw [List.getElem?_append_left (show 0 < hst0.length by omega)]
    have lT : ∀ x : H, ∀ d : D, (hst ++ [x]).getD (vs ++ [d]).length [] = x := fun x d => by simp [List.getD, List.getElem?_append_right (show hst.length ≤ vs.length + 1 by omega), hl]
    have lF : ∀ x : H, ∀ d : D, (hst0 ++ [x]).getD (vs ++ [d]).length [] = x := fun x d => by simp [List.getD, List.getElem?_append_right (show hst0.length ≤ vs.length + 1 by omega), hl0]
    simp only [warun] at e
    split at e
    · rename_i o ho
      split at e
      · rename_i hi
        exact warun_ok hdep e (by simp; omega) (by simp [hl]) (by simp [hl0]) (z0 _) (lT _ _) (lF _ _) (f.push hl hl0 ho (fun _ => ⟨rfl, hh.symm, hh0.symm⟩) (fun h => absurd hi h) (fun h => absurd hi h) (fun h => absurd hi h))
      · rename_i hi
        split at e
        · rename_i hA
          rw [← hdep _ (by omega)] at hA
          obtain ⟨d, hT', k1, k2⟩ := wtstep_ok e
          exact warun_ok hdep k2 (by simp; omega) (by simp [hl]) (by simp [hl0]) (z0 _) (lT _ _) (lF _ _) (f.push hl hl0 ho (fun h => absurd h hi) (fun _ => by rw [hh]; exact k1) (fun _ _ => hh0.symm) (fun _ h => by rw [hA] at h; cases h))
        · rename_i hA
          rw [← hdep _ (by omega)] at hA
          obtain ⟨d, hT', k1, k2⟩ := wtstep_ok e
          obtain ⟨d', hF', k3, k4⟩ := wtstep_ok k2
          obtain ⟨⟨rfl, q1, q2⟩, k5⟩ := k4.out
          exact warun_ok hdep k5 (by simp; omega) (by simp [hl]) (by simp [hl0]) (z0 _) (lT _ _) (lF _ _) (f.push hl hl0 ho (fun h => absurd h hi) (fun _ => by rw [hh]; exact k1) (fun _ h => absurd h hA) (fun _ _ => ⟨by rw [hh0]; exact k3, q1, q2⟩))
    · exact e.elim
/-- Whatever is said of a drawn region as it is done in the world. -/
def DrawP (P : Program) (l : List Oper) (ts : List D) (h : H) (K : List D → H → Prop) : Prop := ∀ (id : Nat) (C : Cx) (w : World) (a : Act) (Q : Exit → Act → World → Prop), Sim C h w → TA C w ts a →
  (∀ ts' h' a' C' w', K ts' h' → Fw C w C' w' → Sim C' h' w' → TA C' w' ts' a' → Q .normal a' w') → (Code.region id l.toArray true).wp P Q a w
structure DrawK (T : TP) (l : List Oper) (ts : List D) (h : H) (K : List D → H → Prop) : Prop where
  out : (∃ n, whrun T l n ts h n [] fun hs => staticB l n ts.length hs = true ∧ wlist T l.toArray (l.drop n) (hfin l n hs (deadB l n hs) n ts h).1 (hfin l n hs (deadB l n hs) n ts h).2 K) ∨
    (∃ n, (headB .any l.toArray n = true ∧ dstsB l.toArray n ts.length = true ∧ waitsB l n = true ∧ ordT l n = true) ∧ wtrun T l n ts n [] [h] h fun vs _ h' => wlist T l.toArray (l.drop n) (lputs l vs n ts) h' K) ∨
    (∃ n i0 t zs free dep, ((headB .any l.toArray n = true ∧ dstsB l.toArray n ts.length = true ∧ waitsB l n = true) ∧ i0 < n ∧ (∃ o, l[i0]? = some o ∧ o.op = .alloc t ∧ o.guard = none) ∧ zeroD (T ()) t = some zs ∧ ∀ j, j < n → hasA l n i0 j = dep.contains j) ∧ warun T l n ts dep i0 h.length (.box t zs) (fun vs hst hst0 h' => ADoneK T l n ts vs hst hst0 i0 free fun _ => wlist T l.toArray (l.drop n) (lputs l vs n ts) h' K) n [] [h ++ [.box t zs]] (h ++ [.box t zs]) [h] h) ∨ DrawP (T ()) l ts h K
/-- Whatever is said of a region as it is done in the world. -/
def RegP (P : Program) (ops : Array Oper) (ts : List D) (h : H) (K : List D → H → Prop) : Prop := ∀ (C : Cx) (w : World) (a : Act) (Q : Exit → Act → World → Prop), Sim C h w → TA C w ts a →
  (∀ ts' h' a' C' w', K ts' h' → Fw C w C' w' → Sim C' h' w' → TA C' w' ts' a' → Q .normal a' w') → wpList P ops Q ops.toList a w
/-- A region that begins with a row of no elements holds the run up. -/
structure RegK (T : TP) (ops : Array Oper) (ts : List D) (h : H) (K : List D → H → Prop) : Prop where
  out : wlist T ops ops.toList ts h K ∨ RegP (T ()) ops ts h K
theorem RegK.go {T : TP} {ops : Array Oper} {ts : List D} {h : H} {K : List D → H → Prop} (k : wlist T ops ops.toList ts h K) : RegK T ops ts h K := ⟨.inl k⟩
def copyShape : List Oper → Bool
  | o :: _ => match o.op with
    | .buildSlice _ 0 _ => true
    | _ => false
  | [] => false
structure LineK (T : TP) (l : List Oper) (ts : List D) (h : H) (K : List D → H → Prop) : Prop where
  out : (∃ n, (headB .any l.toArray n = true ∧ dstsB l.toArray n ts.length = true ∧ waitsB l n = true ∧ ordB l n = true) ∧ wlrun T l n ts n [] [h] h fun vs _ h' => wlist T l.toArray (l.drop n) (lputs l vs n ts) h' K) ∨ DrawP (T ()) l ts h K
structure StatK (l : List Oper) (n m : Nat) (hs : List HD) (K : Unit → Prop) : Prop where
  out : (dstsB l.toArray n m = true ∧ consB l.toArray n (consOf l n hs) = true) ∧ K ()
/-! ### Code -/
def wx (T : TP) : Code → List D → H → (AExit → List D → H → Prop) → Prop
  | .skip, ts, h, Q => Q .normal ts h
  | .region _ ops draw, ts, h, Q => if draw = true then (if lineFirst ops.toList = true then LineK T ops.toList ts h (fun ts' h' => Q .normal ts' h') else DrawK T ops.toList ts h (fun ts' h' => Q .normal ts' h')) else if copyShape ops.toList = true then RegK T ops ts h (fun ts' h' => Q .normal ts' h') else wlist T ops ops.toList ts h (fun ts' h' => Q .normal ts' h')
  | .seq a b, ts, h, Q => wx T a ts h fun ex ts' h' => match ex with
    | .normal => wx T b ts' h' Q
    | .exit j => Q (.exit j) ts' h'
    | .ret => Q .ret ts' h'
  | .cond c x y, ts, h, Q => match dv ts c with
    | .raw (.bool t) => bcase t (fun _ => wx T x ts h Q) (fun _ => wx T y ts h Q)
    | _ => False
  | .block id c, ts, h, Q => wx T c ts h fun ex ts' h' => match ex with
    | .normal => Q .normal ts' h'
    | .exit j => if j = id then Q .normal ts' h' else Q (.exit j) ts' h'
    | .ret => Q .ret ts' h'
  | .loop c, ts, h, Q => LoopK (dstsOf c) (scrub (dstsOf c) ts) h (fun ts' h' R => wx T c ts' h' R) Q
  | .exit id, ts, h, Q => Q (.exit id) ts h
  | .label _, ts, h, Q => Q .normal ts h
  | .ret, ts, h, Q => Q .ret ts h
  | _, _, _, _ => False
theorem wx_sound (hm : (T ()).follows .mixedOrders = true) : ∀ (c : Code) {ts : List D} {h : H} {K : AExit → List D → H → Prop}, wx T c ts h K → ∀ {C : Cx} {w : World} {a : Act} {Q : Exit → Act → World → Prop}, Sim C h w → TA C w ts a →
    (∀ ex ts' h' a' C' w', K ex ts' h' → Fw C w C' w' → Sim C' h' w' → TA C' w' ts' a' → Q ex.ex a' w') → c.wp (T ()) Q a w := by
  intro c
  induction c with
  | skip => intro ts h K e C w a Q s ta hk; exact wp_skip (hk _ _ _ a C w e (Fw.refl _ _) s ta)
  | region id ops draw =>
    intro ts h K e C w a Q s ta hk
    simp only [wx] at e
    cases draw with
    | false =>
      rw [if_neg (by simp)] at e
      split at e
      · rcases e.out with e | e
        · exact wp_region_list (wlist_sound e s ta fun ts' h' a' C' w' k f' s' t' => hk _ _ _ a' C' w' k f' s' t')
        · exact wp_region_list (e C w a Q s ta fun ts' h' a' C' w' k f' s' t' => hk _ _ _ a' C' w' k f' s' t')
      · exact wp_region_list (wlist_sound e s ta fun ts' h' a' C' w' k f' s' t' => hk _ _ _ a' C' w' k f' s' t')
    | true =>
      rw [if_pos rfl] at e
      split at e
      · rcases e.out with ⟨n, h4, e⟩ | e
        · obtain ⟨vs, hst, k1, k2⟩ := wlrun_ok (h0 := h) e (by simp) (by simp) (by simp) (by simp) (fun i hi => absurd hi (Nat.not_lt_zero _))
          have := aline_core hm k1 h4 id s ta fun a1 C1 w1 f1 s1 t1 => wlist_sound k2 s1 t1 fun ts' h' a' C' w' k f' s' t' => hk _ _ _ a' C' w' k (f1.trans f') s' t'
          simpa using this
        · have := e id C w a Q s ta fun ts' h' a' C' w' k f' s' t' => hk _ _ _ a' C' w' k f' s' t'
          simpa using this
      · rcases e.out with ⟨n, e⟩ | ⟨n, h4, e⟩ | ⟨n, i0, t, zs, free, dep, ⟨h4, hi0, ⟨oA, q1, q2, q3⟩, hz, hdep⟩, e⟩ | e
        rotate_left
        · obtain ⟨vs, hst, k1, k2⟩ := wtrun_ok (h0 := h) e (by simp) (by simp) (by simp) (by simp) (fun i hi => absurd hi (Nat.not_lt_zero _))
          have := aturn_core hm k1 h4 id s ta fun a1 C1 w1 f1 s1 t1 => wlist_sound k2 s1 t1 fun ts' h' a' C' w' k f' s' t' => hk _ _ _ a' C' w' k (f1.trans f') s' t'
          simpa using this
        · obtain ⟨vs, hst, hst0, l1, l2, l3, l4, f, k2⟩ := warun_ok hdep (h0 := h) e (by simp) (by simp) (by simp) rfl rfl rfl ⟨fun i hi => absurd hi (Nat.not_lt_zero _), fun p hp _ => by
            have : p = 0 := by simpa using hp
            subst this
            exact ⟨rfl, rfl⟩⟩
          obtain ⟨h5, h6, h7⟩ := k2.out
          have hA : ARun (T ()) ops.toList n ts h vs hst hst0 i0 free := by
            refine ⟨l1, l2, l3, l4, ⟨hi0, oA, t, zs, q1, q2, q3, hz, ?_, fun p hp hj => f.box p (by omega) hj⟩, fun i o h1 h2 h3 => ?_, fun i h1 h2 => ?_, h6⟩
            · obtain ⟨o, _, k2, _⟩ := f.one i0 (by omega)
              exact k2 rfl
            · obtain ⟨o', r1, _, r3, _⟩ := f.one i (by omega)
              rw [h2] at r1
              cases r1
              exact r3 h3
            · obtain ⟨o', r1, _, _, r4⟩ := f.one i (by omega)
              obtain ⟨d, r5, r6, r7⟩ := r4 h2
              exact ⟨o', d, r1, r5, r6, r7⟩
          have := aturnA_core hm hA ⟨h4.1, h4.2.1, h4.2.2, h5⟩ id s ta fun a1 C1 w1 f1 s1 t1 => wlist_sound h7 s1 t1 fun ts' h' a' C' w' k f' s' t' => hk _ _ _ a' C' w' k (f1.trans f') s' t'
          simpa using this
        · have := e id C w a Q s ta fun ts' h' a' C' w' k f' s' t' => hk _ _ _ a' C' w' k f' s' t'
          simpa using this
        obtain ⟨hs, k1, hst, k2⟩ := whrun_ok e (by simp) (fun i hi => absurd hi (Nat.not_lt_zero _))
        have := adraw_core hm k1 hst id s ta fun a1 C1 w1 f1 s1 t1 => wlist_sound k2 s1 t1 fun ts' h' a' C' w' k f' s' t' => hk _ _ _ a' C' w' k (f1.trans f') s' t'
        simpa using this
  | seq x y ihx ihy =>
    intro ts h K e C w a Q s ta hk
    simp only [wx] at e
    refine wp_seq (ihx e s ta fun ex ts1 h1 a1 C1 w1 k f1 s1 t1 => ?_)
    cases ex with
    | normal => exact ihy k s1 t1 fun ex ts' h' a' C' w' k' f' s' t' => hk ex ts' h' a' C' w' k' (f1.trans f') s' t'
    | exit j => exact hk _ _ _ a1 C1 w1 k f1 s1 t1
    | ret => exact hk _ _ _ a1 C1 w1 k f1 s1 t1
  | cond c x y ihx ihy =>
    intro ts h K e C w a Q s ta hk
    simp only [wx] at e
    split at e
    · rename_i t hc
      have hcv := ta.reads c
      rw [hc] at hcv
      simp only [Rd] at hcv
      have e := bcase_eq e
      refine wp_cond_split hcv (fun ht => ?_) fun ht => ?_
      · subst ht
        rw [if_pos rfl] at e
        exact ihx e s ta hk
      · subst ht
        rw [if_neg (by simp)] at e
        exact ihy e s ta hk
    · exact e.elim
  | block id c ih =>
    intro ts h K e C w a Q s ta hk
    simp only [wx] at e
    refine wp_block (ih e s ta fun ex ts1 h1 a1 C1 w1 k f1 s1 t1 => ?_)
    cases ex with
    | normal => exact hk _ _ _ a1 C1 w1 k f1 s1 t1
    | exit j =>
      simp only at k
      by_cases hj : j = id
      · rw [if_pos hj] at k
        simp only [AExit.ex, Exit.inBlock, if_pos hj]
        exact hk _ _ _ a1 C1 w1 k f1 s1 t1
      · rw [if_neg hj] at k
        simp only [AExit.ex, Exit.inBlock, if_neg hj]
        exact hk _ _ _ a1 C1 w1 k f1 s1 t1
    | ret => exact hk _ _ _ a1 C1 w1 k f1 s1 t1
  | loop c ih =>
    intro ts h K e C w a Q s ta hk
    simp only [wx] at e
    obtain ⟨m, I, he, hr⟩ := e.out
    obtain ⟨C1, ts1, h1, ⟨hlen, N, hI⟩, f1, s1, t1⟩ := he C w a s (ta.scrub _)
    have hb0 : ∀ id b, C1.bx id = some b → id < m := fun id b hb => Nat.lt_of_lt_of_le (s1.idb id b hb) hlen
    have hl0 : ∀ id u, C1.lg id = some u → id < m := fun id u hu => Nat.lt_of_lt_of_le (s1.idl id u hu) hlen
    have main : ∀ (n N : Nat) (ts : List D) (h : H) (C2 : Cx) (w2 : World) (a2 : Act), N < n → I N ts h → Fw C1 w C2 w2 → Sim C2 h w2 → TA C2 w2 ts a2 → Code.rounds (T ()) c Q n a2 w2 := by
      intro n
      induction n with
      | zero => intro N ts h C2 w2 a2 hN; omega
      | succ n ihn =>
        intro N ts h C2 w2 a2 hN hI f2 s2 t2
        unfold Code.rounds
        refine ih (hr N ts h hI) s2 t2 fun ex ts3 h3 a3 C3 w3 k f3 s3 t3 => ?_
        cases ex with
        | normal =>
          obtain ⟨N', hN', hw⟩ := k.out
          obtain ⟨C4, ts4, h4, k1, k2, k3, k4⟩ := hw C1 w C3 w3 a3 hb0 hl0 (f2.trans f3) s3 (t3.scrub _)
          exact ihn N' ts4 h4 C4 w3 a3 (by omega) k1 k2 k3 k4
        | exit j => exact hk _ _ _ a3 C3 w3 k (f1.trans (f2.trans f3)) s3 t3
        | ret => exact hk _ _ _ a3 C3 w3 k (f1.trans (f2.trans f3)) s3 t3
    exact wp_loop_rounds (N + 1) (main (N + 1) N ts1 h1 C1 w a (by omega) hI (Fw.refl _ _) s1 t1)
  | exit id => intro ts h K e C w a Q s ta hk; exact wp_exit (hk _ _ _ a C w e (Fw.refl _ _) s ta)
  | label l => intro ts h K e C w a Q s ta hk; exact wp_label (hk _ _ _ a C w e (Fw.refl _ _) s ta)
  | ret => intro ts h K e C w a Q s ta hk; exact wp_ret (hk _ _ _ a C w e (Fw.refl _ _) s ta)
  | _ => intros; rename_i e _ _ _ _ _ _ _; simp [wx] at e
/-! ### A function -/
def wfun (T : TP) (k : FuncId) (ds : List D) (h : H) (Q : D → H → Prop) : Prop :=
  match (T ()).funcs[k]? with
  | some fn => match fn.body with
    | some c => if (fn.name == "runtime.NumGoroutine") = false then
        wx T c (ds ++ List.replicate (fn.ntmps - ds.length) (.raw undef)) h fun ex ts' h' => match ex with
          | .exit _ => False
          | _ => match resD (T ()) h' ts' fn.results.toList with
            | some l => EndK Q (oneD l) h'
            | none => False
      else False
    | none => False
  | none => False
theorem wfun_ok (hm : (T ()).follows .mixedOrders = true) {k : FuncId} {ds : List D} {h : H} {K : D → H → Prop} (e : wfun T k ds h K) : CW (T ()) k ds h K := by
  unfold wfun at e
  split at e
  · rename_i fn hf
    split at e
    · rename_i c hb
      split at e
      · rename_i hname
        refine ⟨⟨fn, c, hf, hname, hb⟩, fun C w args s r => ?_⟩
        refine calls_of_wp hf hb (wx_sound hm c e s (a := { tmps := args.toArray ++ Array.replicate (fn.ntmps - args.toArray.size) undef, defers := [] }) ⟨?_, rfl⟩ fun ex ts' h' a' C' w' k f' s' t' => ?_)
        · have hl := r.len
          simp only [Array.toList_append, Array.toList_replicate, List.size_toArray, ← hl]
          refine r.app ?_
          have := RdL.raws C w (List.replicate (fn.ntmps - ds.length) undef)
          simpa using this
        · have main : (match resD (T ()) h' ts' fn.results.toList with | some l => EndK K (oneD l) h' | none => False) → bodyPost (T ()) fn (fun e w'' => ∃ v C'' d h', e = .returned v ∧ K d h' ∧ Fw C w C'' w'' ∧ Sim C'' h' w'' ∧ Rd C'' w'' d v) .ret a' w' := fun k => by
            split at k
            · rename_i l hl
              obtain ⟨vs, k1, k2⟩ := resD_sound s' t' hl
              exact ⟨t'.defers, _, run_results k1, _, C', _, h', rfl, k.out, f', s', oneD_rd k2⟩
            · exact k.elim
          cases ex with
          | normal => exact main k
          | ret => exact main k
          | exit j => exact k.elim
      · exact e.elim
    · exact e.elim
  · exact e.elim
/-! ### Drawn regions, closed checks apart -/
theorem wsop_mono {ρ : Operand → D} {o : Oper} {h : H} {K R : D → Prop} (hk : ∀ d, K d → R d) (e : wsop T ρ o h K) : wsop T ρ o h R := by
  unfold wsop at e ⊢
  split at e
  · rename_i c a b ho
    split at e
    · rename_i t hc
      cases t <;> exact hk _ e
    · exact e.elim
  · split at e
    · obtain ⟨r, h1, h2⟩ := e.out; exact ⟨r, h1, hk _ h2⟩
    · split at e
      · obtain ⟨r, h1, h2⟩ := e.out; exact ⟨r, h1, hk _ h2⟩
      · exact e.elim
  · split at e
    · rename_i b hx
      split at e
      · cases b <;> exact hk _ e
      · exact e.elim
    · obtain ⟨r, h1, h2⟩ := e.out; exact ⟨r, h1, hk _ h2⟩
    · exact e.elim
  · unfold widx at e ⊢
    split at e
    · split at e
      · rename_i hs
        rw [if_pos hs]
        obtain ⟨h1, d, h2, h3⟩ := e.out; exact ⟨h1, d, h2, hk _ h3⟩
      · exact e.elim
    · obtain ⟨h1, h2, h3⟩ := e.out; exact ⟨h1, h2, hk _ h3⟩
    · exact e.elim
  · split at e
    · split at e
      · obtain ⟨d, h1, h2⟩ := e.out; exact ⟨d, h1, hk _ h2⟩
      · exact e.elim
    · split at e
      · exact hk _ e
      · exact e.elim
  · split at e
    · obtain ⟨r, h1, h2⟩ := e.out; exact ⟨r, h1, hk _ h2⟩
    · exact e.elim
  · unfold wslice at e ⊢
    split at e
    · split at e
      · split at e
        · rename_i hs
          rw [if_pos hs]
          obtain ⟨l, k, h1, h2, h3, h4, h5⟩ := e.out; exact ⟨l, k, h1, h2, h3, h4, hk _ h5⟩
        · exact e.elim
      · exact e.elim
    · split at e
      · obtain ⟨r, h1, h2⟩ := e.out; exact ⟨r, h1, hk _ h2⟩
      · exact e.elim
    · split at e
      · exact hk _ e
      · exact e.elim
  · split at e
    · obtain ⟨r, h1, h2⟩ := e.out; exact ⟨r, h1, hk _ h2⟩
    · obtain ⟨r, h1, h2⟩ := e.out; exact ⟨r, h1, hk _ h2⟩
  · split at e
    · split at e
      · rename_i hs
        rw [if_pos hs]
        unfold wlen at e ⊢
        split at e
        · split at e
          · exact ⟨hk _ e.out⟩
          · exact e.elim
        · obtain ⟨r, h1, h2⟩ := e.out; exact ⟨r, h1, hk _ h2⟩
        · split at e
          · exact ⟨hk _ e.out⟩
          · exact e.elim
        · split at e
          · exact ⟨hk _ e.out⟩
          · exact e.elim
        · split at e
          · exact hk _ e
          · exact e.elim
      · exact e.elim
    · split at e
      · obtain ⟨r, h1, h2⟩ := e.out; exact ⟨r, h1, hk _ h2⟩
      · exact e.elim
    · exact e.elim
  · split at e
    · exact hk _ e
    · exact e.elim
theorem whop_mono {ρ : Operand → HD} {o : Oper} {h : H} {K R : HD → Prop} (hk : ∀ d, K d → R d) (e : whop T ρ o h K) : whop T ρ o h R := by
  unfold whop at e ⊢
  split at e
  · rename_i hb
    rw [if_pos hb]
    split at e
    · exact hk _ e
    · exact e.elim
  · rename_i hb
    rw [if_neg hb]
    split at e
    · split at e
      · split at e
        · rename_i hs
          rw [if_pos hs]
          obtain ⟨d, h1, h2⟩ := e.out; exact ⟨d, h1, hk _ h2⟩
        · exact e.elim
      · split at e
        · obtain ⟨es, d, h1, h2, h3, h4⟩ := e.out; exact ⟨es, d, h1, h2, h3, hk _ h4⟩
        · exact e.elim
      · exact wsop_mono (fun d => hk _) e
    · exact wsop_mono (fun d => hk _) e
theorem whrun_mono {l : List Oper} {n : Nat} {ts : List D} {h : H} {K R : List HD → Prop} (hk : ∀ d, K d → R d) : ∀ {r : Nat} {hs : List HD}, whrun T l n ts h r hs K → whrun T l n ts h r hs R
  | 0, hs, e => hk _ e
  | r + 1, hs, e => by
    simp only [whrun] at e ⊢
    split at e
    · unfold whstep at e ⊢
      split at e
      · exact whop_mono (fun d => whrun_mono hk) e
      · split at e
        · refine gcase_of ?_
          have e := gcase_eq e
          split at e
          · rename_i hb
            rw [if_pos hb]
            exact whop_mono (fun d => whrun_mono hk) e
          · rename_i hb
            rw [if_neg hb]
            exact whrun_mono hk e
        · exact whrun_mono hk e
        · exact e.elim
    · exact e.elim
/-- Its stores go to blocks that it has made. -/
def freshB (l : List Oper) (n : Nat) : Bool := (List.range n).all fun i => match l[i]? with
  | some o => !isStoreOp o.op || (match l[ptrIx l n i]? with
    | some q => (match q.op with | .alloc _ | .box .. => true | _ => false)
    | none => false)
  | none => true
def statB0 (l : List Oper) (n : Nat) : Bool := (headB .any l.toArray n && (waitsB l n && storeB l n)) && freshB l n
/-- All but the last j operations are the head. -/
theorem DrawK.go {l : List Oper} {ts : List D} {h : H} {K : List D → H → Prop} (j : Nat) (hs : statB0 l (l.length - j) = true)
    (k : whrun T l (l.length - j) ts h (l.length - j) [] fun hs => StatK l (l.length - j) ts.length hs fun _ => wlist T l.toArray (l.drop (l.length - j)) (hfin l (l.length - j) hs (deadB l (l.length - j) hs) (l.length - j) ts h).1 (hfin l (l.length - j) hs (deadB l (l.length - j) hs) (l.length - j) ts h).2 K) : DrawK T l ts h K := by
  refine ⟨.inl ⟨l.length - j, whrun_mono (fun d e => ?_) k⟩⟩
  obtain ⟨⟨h1, h2⟩, h3⟩ := e.out
  simp only [statB0, Bool.and_eq_true] at hs
  exact ⟨by simp only [staticB, Bool.and_eq_true]; exact ⟨⟨⟨hs.1.1, h1⟩, hs.1.2⟩, h2⟩, h3⟩
def statB1 (l : List Oper) (n : Nat) : Bool := headB .any l.toArray n && (waitsB l n && ordB l n)
theorem LineK.go {l : List Oper} {ts : List D} {h : H} {K : List D → H → Prop} (j : Nat) (hs : statB1 l (l.length - j) = true) (hd : dstsB l.toArray (l.length - j) ts.length = true)
    (k : wlrun T l (l.length - j) ts (l.length - j) [] [h] h fun vs _ h' => wlist T l.toArray (l.drop (l.length - j)) (lputs l vs (l.length - j) ts) h' K) : LineK T l ts h K := by
  simp only [statB1, Bool.and_eq_true] at hs
  exact ⟨.inl ⟨l.length - j, ⟨hs.1, hd, hs.2.1, hs.2.2⟩, k⟩⟩
def statB2 (l : List Oper) (n : Nat) : Bool := headB .any l.toArray n && (waitsB l n && ordT l n)
/-- In a line, where what turns memory is ordered against all else that looks at it. -/
theorem DrawK.turn {l : List Oper} {ts : List D} {h : H} {K : List D → H → Prop} (j : Nat) (hs : statB2 l (l.length - j) = true) (hd : dstsB l.toArray (l.length - j) ts.length = true)
    (k : wtrun T l (l.length - j) ts (l.length - j) [] [h] h fun vs _ h' => wlist T l.toArray (l.drop (l.length - j)) (lputs l vs (l.length - j) ts) h' K) : DrawK T l ts h K := by
  simp only [statB2, Bool.and_eq_true] at hs
  exact ⟨.inr (.inl ⟨l.length - j, ⟨hs.1, hd, hs.2.1, hs.2.2⟩, k⟩)⟩
def statA (l : List Oper) (n : Nat) : Bool := headB .any l.toArray n && waitsB l n
/-- In a line, but for the new box i0, which may come at any time, as the loads at 'free' may. -/
theorem DrawK.turnA {l : List Oper} {ts : List D} {h : H} {K : List D → H → Prop} (j i0 t : Nat) (free dep : List Nat) {zs : List D} (hs : statA l (l.length - j) = true) (hd : dstsB l.toArray (l.length - j) ts.length = true) (hi : i0 < l.length - j) (ho : (l[i0]?).map (fun o => (o.op, o.guard)) = some (.alloc t, none)) (hz : zeroD (T ()) t = some zs) (hdep : ((List.range (l.length - j)).all fun k => hasA l (l.length - j) i0 k == dep.contains k) = true)
    (k : warun T l (l.length - j) ts dep i0 h.length (.box t zs) (fun vs hst hst0 h' => ADoneK T l (l.length - j) ts vs hst hst0 i0 free fun _ => wlist T l.toArray (l.drop (l.length - j)) (lputs l vs (l.length - j) ts) h' K) (l.length - j) [] [h ++ [.box t zs]] (h ++ [.box t zs]) [h] h) : DrawK T l ts h K := by
  simp only [statA, Bool.and_eq_true] at hs
  obtain ⟨o, h1, h2⟩ := Option.map_eq_some_iff.1 ho
  simp only [Prod.mk.injEq] at h2
  exact ⟨.inr (.inr (.inl ⟨l.length - j, i0, t, zs, free, dep, ⟨⟨hs.1, hd, hs.2⟩, hi, ⟨o, h1, h2.1, h2.2⟩, hz, fun q hq => by simpa using List.all_eq_true.1 hdep q (List.mem_range.2 hq)⟩, k⟩))⟩
theorem FreeA.nil {P : Program} {l : List Oper} {n : Nat} {ts vs : List D} {hst hst0 : List H} : FreeA P l n ts vs hst hst0 [] := fun i _ h => by simp at h
theorem FreeA.one {P : Program} {l : List Oper} {n : Nat} {ts vs : List D} {hst hst0 : List H} {i : Nat} {o : Oper} {d : D} (ho : l[i]? = some o) (hd : vs[i]? = some d) (hl : hst.length = n + 1) (hl0 : hst0.length = n + 1) (hall : ∀ h' ∈ hst, sop P (lval l n ts (vs.take i) o) o h' = some d) (hall0 : ∀ h' ∈ hst0, sop P (lval l n ts (vs.take i) o) o h' = some d) : FreeA P l n ts vs hst hst0 [i] := fun k _ hk p hp => by
  have hki : k = i := by simpa using hk
  subst hki
  refine ⟨o, d, ho, hd, hall _ ?_, hall0 _ ?_⟩
  · have : p < hst.length := by omega
    simp only [List.getD, List.getElem?_eq_getElem this, Option.getD_some]
    exact List.getElem_mem _
  · have : p < hst0.length := by omega
    simp only [List.getD, List.getElem?_eq_getElem this, Option.getD_some]
    exact List.getElem_mem _
theorem StatK.go {l : List Oper} {n m : Nat} {hs : List HD} {K : Unit → Prop} (h1 : dstsB l.toArray n m = true) (h2 : consB l.toArray n (consOf l n hs) = true) (k : K ()) : StatK l n m hs K := ⟨⟨h1, h2⟩, k⟩
/-! ### What is said at a stop -/
theorem CallK.pure {k : FuncId} {ds es : List D} {h : H} {K : D → H → Prop} {Q : D → Prop} (c : CP (T ()) k es Q) (hds : pureL ds = some es) (hq : ∀ d, Q d → pureD d = some d ∧ K d h) : CallK T k ds h K :=
  ⟨_, c.cw hds fun d hd => (hq d hd).1, fun d h' ⟨h1, h2⟩ => h2 ▸ (hq d h1).2⟩
theorem CallK.one {k : FuncId} {ds es : List D} {h : H} {K : D → H → Prop} {d : D} (c : CP (T ()) k es (· = d)) (hds : pureL ds = some es) (hd : pureD d = some d) (hk : K d h) : CallK T k ds h K :=
  .pure c hds fun _ e => e ▸ ⟨hd, hk⟩
theorem CallK.mut {k : FuncId} {ds : List D} {h : H} {K Q : D → H → Prop} (c : CW (T ()) k ds h Q) (hk : ∀ d h', Q d h' → K d h') : CallK T k ds h K := ⟨_, c, hk⟩
theorem TCallK.mut {k : FuncId} {ds : List D} {h h' : H} {K : D → H → Prop} {d : D} (c : CW (T ()) k ds h (fun a b => a = d ∧ b = h')) (hk : K d h') : TCallK T k ds h K := ⟨d, h', c, hk⟩
theorem TCallK.one {k : FuncId} {ds es : List D} {h : H} {K : D → H → Prop} {d : D} (c : CP (T ()) k es (· = d)) (hds : pureL ds = some es) (hd : pureD d = some d) (hk : K d h) : TCallK T k ds h K :=
  ⟨d, h, c.cw hds (fun d' e => by rw [e]; exact hd) |>.mono fun _ _ h => h, hk⟩
theorem PCallK.one {k : FuncId} {ds es : List D} {K : D → Prop} {d : D} (c : CP (T ()) k es (· = d)) (hds : pureL ds = some es) (hd : pureD d = some d) (hk : K d) : PCallK T k ds K := ⟨es, d, hds, hd, c, hk⟩
theorem LenK.intro {ds : List D} {K : Int → Prop} (hk : ∀ n : Int, 0 ≤ n → n.toNat = ds.length → K n) : LenK ds K := ⟨hk _ (by omega) (by omega)⟩
theorem LenNK.intro {n : Nat} {K : Int → Prop} (hk : ∀ m : Int, 0 ≤ m → m.toNat = n → K m) : LenNK n K := ⟨hk _ (by omega) (by omega)⟩
theorem IdxK.intro {ds : List D} {n : Int} {K : D → Prop} {d : D} (h0 : 0 ≤ n) (hd : ds[n.toNat]? = some d) (hk : K d) : IdxK ds n K := ⟨h0, d, hd, hk⟩
section ints
variable {t : TypeId} {x y : Operand} {a b : Int} {K : D → Prop}
theorem BinK.add (h : -9223372036854775808 ≤ a + b ∧ a + b ≤ 9223372036854775807) (hk : ∀ r, r = a + b → K (.raw (.int .i64 r))) : BinK T .add t x y (.int .i64 a) (.int .i64 b) K := ⟨.int .i64 (IntKind.i64.wrap (a + b)), rfl, by rw [IntWalk.i64_in _ h]; exact hk _ rfl⟩
theorem BinK.sub (h : -9223372036854775808 ≤ a - b ∧ a - b ≤ 9223372036854775807) (hk : ∀ r, r = a - b → K (.raw (.int .i64 r))) : BinK T .sub t x y (.int .i64 a) (.int .i64 b) K := ⟨.int .i64 (IntKind.i64.wrap (a - b)), rfl, by rw [IntWalk.i64_in _ h]; exact hk _ rfl⟩
theorem BinK.mul (h : -9223372036854775808 ≤ a * b ∧ a * b ≤ 9223372036854775807) (hk : ∀ r, r = a * b → K (.raw (.int .i64 r))) : BinK T .mul t x y (.int .i64 a) (.int .i64 b) K := ⟨.int .i64 (IntKind.i64.wrap (a * b)), rfl, by rw [IntWalk.i64_in _ h]; exact hk _ rfl⟩
theorem BinK.lssT (h : a < b) (hk : K (.raw (.bool true))) : BinK T .lss t x y (.int .i64 a) (.int .i64 b) K := ⟨.bool (decide (a < b)), rfl, by rw [decide_eq_true h]; exact hk⟩
theorem BinK.lssF (h : b ≤ a) (hk : K (.raw (.bool false))) : BinK T .lss t x y (.int .i64 a) (.int .i64 b) K := ⟨.bool (decide (a < b)), rfl, by rw [decide_eq_false (by omega)]; exact hk⟩
theorem BinK.leqT (h : a ≤ b) (hk : K (.raw (.bool true))) : BinK T .leq t x y (.int .i64 a) (.int .i64 b) K := ⟨.bool (decide (a ≤ b)), rfl, by rw [decide_eq_true h]; exact hk⟩
theorem BinK.leqF (h : b < a) (hk : K (.raw (.bool false))) : BinK T .leq t x y (.int .i64 a) (.int .i64 b) K := ⟨.bool (decide (a ≤ b)), rfl, by rw [decide_eq_false (by omega)]; exact hk⟩
theorem BinK.gtrT (h : b < a) (hk : K (.raw (.bool true))) : BinK T .gtr t x y (.int .i64 a) (.int .i64 b) K := ⟨.bool (decide (a > b)), rfl, by rw [decide_eq_true h]; exact hk⟩
theorem BinK.gtrF (h : a ≤ b) (hk : K (.raw (.bool false))) : BinK T .gtr t x y (.int .i64 a) (.int .i64 b) K := ⟨.bool (decide (a > b)), rfl, by rw [decide_eq_false (by omega)]; exact hk⟩
theorem BinK.geqT (h : b ≤ a) (hk : K (.raw (.bool true))) : BinK T .geq t x y (.int .i64 a) (.int .i64 b) K := ⟨.bool (decide (a ≥ b)), rfl, by rw [decide_eq_true h]; exact hk⟩
theorem BinK.geqF (h : a < b) (hk : K (.raw (.bool false))) : BinK T .geq t x y (.int .i64 a) (.int .i64 b) K := ⟨.bool (decide (a ≥ b)), rfl, by rw [decide_eq_false (by omega)]; exact hk⟩
theorem BinK.eqlT (h : a = b) (hk : K (.raw (.bool true))) : BinK T .eql t x y (.int .i64 a) (.int .i64 b) K := ⟨.bool (a == b), rfl, by rw [beq_iff_eq.2 h]; exact hk⟩
theorem BinK.eqlF (h : a ≠ b) (hk : K (.raw (.bool false))) : BinK T .eql t x y (.int .i64 a) (.int .i64 b) K := ⟨.bool (a == b), rfl, by rw [beq_eq_false_iff_ne.2 h]; exact hk⟩
theorem BinK.neqT (h : a ≠ b) (hk : K (.raw (.bool true))) : BinK T .neq t x y (.int .i64 a) (.int .i64 b) K := ⟨.bool (a != b), rfl, by rw [bne, beq_eq_false_iff_ne.2 h]; exact hk⟩
theorem BinK.neqF (h : a = b) (hk : K (.raw (.bool false))) : BinK T .neq t x y (.int .i64 a) (.int .i64 b) K := ⟨.bool (a != b), rfl, by rw [bne, beq_iff_eq.2 h]; exact hk⟩
/-- Whatever can't be told is told apart. -/
theorem BinK.lss (h1 : a < b → K (.raw (.bool true))) (h2 : b ≤ a → K (.raw (.bool false))) : BinK T .lss t x y (.int .i64 a) (.int .i64 b) K := by
  by_cases h : a < b
  · exact .lssT h (h1 h)
  · exact .lssF (by omega) (h2 (by omega))
theorem BinK.leq (h1 : a ≤ b → K (.raw (.bool true))) (h2 : b < a → K (.raw (.bool false))) : BinK T .leq t x y (.int .i64 a) (.int .i64 b) K := by
  by_cases h : a ≤ b
  · exact .leqT h (h1 h)
  · exact .leqF (by omega) (h2 (by omega))
theorem BinK.gtr (h1 : b < a → K (.raw (.bool true))) (h2 : a ≤ b → K (.raw (.bool false))) : BinK T .gtr t x y (.int .i64 a) (.int .i64 b) K := by
  by_cases h : b < a
  · exact .gtrT h (h1 h)
  · exact .gtrF (by omega) (h2 (by omega))
theorem BinK.geq (h1 : b ≤ a → K (.raw (.bool true))) (h2 : a < b → K (.raw (.bool false))) : BinK T .geq t x y (.int .i64 a) (.int .i64 b) K := by
  by_cases h : b ≤ a
  · exact .geqT h (h1 h)
  · exact .geqF (by omega) (h2 (by omega))
theorem BinK.eql (h1 : a = b → K (.raw (.bool true))) (h2 : a ≠ b → K (.raw (.bool false))) : BinK T .eql t x y (.int .i64 a) (.int .i64 b) K := by
  by_cases h : a = b
  · exact .eqlT h (h1 h)
  · exact .eqlF h (h2 h)
theorem BinK.neq (h1 : a ≠ b → K (.raw (.bool true))) (h2 : a = b → K (.raw (.bool false))) : BinK T .neq t x y (.int .i64 a) (.int .i64 b) K := by
  by_cases h : a = b
  · exact .neqF h (h2 h)
  · exact .neqT h (h1 h)
end ints
section texts
variable {t : TypeId} {x y : Operand} {a b : ByteArray} {K : D → Prop}
theorem toList_beq {a b : ByteArray} : (a.toList == b.toList) = decide (a = b) := by
  rw [Bool.eq_iff_iff, beq_iff_eq, decide_eq_true_iff, ByteArray.toList_eq, ByteArray.toList_eq]
  constructor
  · intro h
    exact ByteArray.ext (Array.toList_inj.1 h)
  · rintro rfl
    rfl
/-- One text stands ahead of another one. -/
def ltB (a b : ByteArray) : Bool := Op.bytesLess a.toList b.toList
theorem BinK.seql (h1 : a = b → K (.raw (.bool true))) (h2 : a ≠ b → K (.raw (.bool false))) : BinK T .eql t x y (.string a) (.string b) K := ⟨.bool (a.toList == b.toList), rfl, by
  rw [toList_beq]
  by_cases h : a = b
  · rw [decide_eq_true h]; exact h1 h
  · rw [decide_eq_false h]; exact h2 h⟩
theorem BinK.sneq (h1 : a ≠ b → K (.raw (.bool true))) (h2 : a = b → K (.raw (.bool false))) : BinK T .neq t x y (.string a) (.string b) K := ⟨.bool (!(a.toList == b.toList)), rfl, by
  rw [toList_beq]
  by_cases h : a = b
  · rw [decide_eq_true h]; exact h2 h
  · rw [decide_eq_false h]; exact h1 h⟩
theorem BinK.slss (h1 : ltB a b = true → K (.raw (.bool true))) (h2 : ltB a b = false → K (.raw (.bool false))) : BinK T .lss t x y (.string a) (.string b) K := ⟨.bool (ltB a b), rfl, by
  cases h : ltB a b with
  | true => exact h1 h
  | false => exact h2 h⟩
theorem BinK.sgeq (h1 : ltB a b = false → K (.raw (.bool true))) (h2 : ltB a b = true → K (.raw (.bool false))) : BinK T .geq t x y (.string a) (.string b) K := ⟨.bool (!(ltB a b)), rfl, by
  cases h : ltB a b with
  | true => exact h2 h
  | false => exact h1 h⟩
theorem BinK.sgtr (h1 : ltB a b = false → a ≠ b → K (.raw (.bool true))) (h2 : ltB a b = true ∨ a = b → K (.raw (.bool false))) : BinK T .gtr t x y (.string a) (.string b) K := ⟨.bool (!(ltB a b || (a.toList == b.toList))), rfl, by
  rw [toList_beq]
  cases h : ltB a b with
  | true => exact h2 (.inl h)
  | false =>
    by_cases hab : a = b
    · rw [decide_eq_true hab]; exact h2 (.inr hab)
    · rw [decide_eq_false hab]; exact h1 h hab⟩
theorem BinK.sleq (h1 : ltB a b = true ∨ a = b → K (.raw (.bool true))) (h2 : ltB a b = false → a ≠ b → K (.raw (.bool false))) : BinK T .leq t x y (.string a) (.string b) K := ⟨.bool (ltB a b || (a.toList == b.toList)), rfl, by
  rw [toList_beq]
  cases h : ltB a b with
  | true => exact h1 (.inl h)
  | false =>
    by_cases hab : a = b
    · rw [decide_eq_true hab]; exact h1 (.inr hab)
    · rw [decide_eq_false hab]; exact h2 h hab⟩
theorem BinK.sadd (h : a.size + b.size ≤ maxLen) (hk : ∀ r, r = a ++ b → K (.raw (.string r))) : BinK T .add t x y (.string a) (.string b) K := by
  refine ⟨.string (a ++ b), ?_, hk _ rfl⟩
  have hn : ¬ ((a.size + b.size : Nat) : Int) > IntKind.i64.max := by
    have : IntKind.i64.max = 9223372036854775807 := by decide
    rw [this]
    unfold maxLen at h
    omega
  show pureRun (T ()) (Op.stringOp .add a b) = _
  unfold Op.stringOp
  simp only [if_neg hn]
  rfl
end texts
/-! ### append -/
theorem AppK.nil {h : H} {t tx e : TypeId} {inf : TypeInfo} {x : D} {K : D → H → Prop} {ys : List D} (he : elemP (T ()) t = some (e, inf)) (hs : srcD (T ()) tx inf.size x = some ys) (h0 : 0 < inf.size ∧ inf.zero.map (·.cells.size) = some inf.size) (hr : ys.length ≤ 140737488355328 ∧ ys.length * inf.bytes ≤ 140737488355328)
    (hk : ∀ L n, L = ys → n = ys.length → K (.sl (some h.length) inf.size L) (h ++ [.log e inf.size n])) : AppK T h t tx (.raw (.slice none 0 0)) x K := by
  refine ⟨.sl (some h.length) inf.size ys, h ++ [.log e inf.size ys.length], ?_, hk _ _ rfl rfl⟩
  simp [appendD, he, hs, h0, roomy, hr]
theorem AppK.log {h : H} {t tx e : TypeId} {inf : TypeInfo} {x : D} {K : D → H → Prop} {ys ds : List D} {id n : Nat} (he : elemP (T ()) t = some (e, inf)) (hs : srcD (T ()) tx inf.size x = some ys) (h0 : 0 < inf.size ∧ inf.zero.map (·.cells.size) = some inf.size) (hl : h[id]? = some (.log e inf.size n)) (hn : n = ds.length) (hr : ds.length + ys.length ≤ 140737488355328 ∧ (ds.length + ys.length) * inf.bytes ≤ 140737488355328)
    (hk : ∀ L n, L = ds ++ ys → n = L.length → K (.sl (some id) inf.size L) (h.set id (.log e inf.size n))) : AppK T h t tx (.sl (some id) inf.size ds) x K := by
  refine ⟨.sl (some id) inf.size (ds ++ ys), h.set id (.log e inf.size (ds.length + ys.length)), ?_, by have := hk _ _ rfl rfl; rwa [List.length_append] at this⟩
  simp [appendD, he, hs, h0, roomy, hr, hl, hn]
/-! ### Loops by what changes -/
def putS : List D → List (Nat × D) → List D
  | ts, [] => ts
  | ts, (j, d) :: r => putS (ts.set j d) r
def putH : H → List (Nat × Cell) → H
  | h, [] => h
  | h, (j, c) :: r => putH (h.set j c) r
/-- A nil slice, from here on a row of its own. -/
theorem LoopK.log {dl : List Tmp} {ts : List D} {h : H} {body : List D → H → (AExit → List D → H → Prop) → Prop} {Q : AExit → List D → H → Prop} (j : Nat) (e sz : Nat) (hd : ts[j]? = some (.raw (.slice none 0 0))) (k : LoopK dl (ts.set j (.sl (some h.length) sz [])) (h ++ [.log e sz 0]) body Q) : LoopK dl ts h body Q := by
  obtain ⟨m, I, he, hr⟩ := k.out
  exact ⟨m, I, Ent.log e sz hd he, hr⟩
theorem LoopK.slot {dl : List Tmp} {ts : List D} {h : H} {body : List D → H → (AExit → List D → H → Prop) → Prop} {Q : AExit → List D → H → Prop} (j : Nat) {d : D} (d' : D) (hd : ts[j]? = some d) (hr : ∀ C w v, Rd C w d v → Rd C w d' v) (k : LoopK dl (ts.set j d') h body Q) : LoopK dl ts h body Q := by
  obtain ⟨m, I, he, hr'⟩ := k.out
  exact ⟨m, I, Ent.slot d' hd hr he, hr'⟩
theorem LoopK.put {X : Type} {dl : List Tmp} {ts : List D} {h : H} {body : List D → H → (AExit → List D → H → Prop) → Prop} {Q : AExit → List D → H → Prop} (f : X → List (Nat × D)) (g : X → List (Nat × Cell)) (meas : X → Nat) (inv : X → Prop) (x0 : X)
    (h0 : inv x0) (h1 : putS ts (f x0) = ts) (h2 : putH h (g x0) = h)
    (step : ∀ (x : X) (N : Nat), inv x → N = meas x → body (putS ts (f x)) (putH h (g x)) fun ex ts' h' => match ex with
      | .normal => RoundK h.length (scrub dl ts') h' N (fun N ts2 h2 => ∃ x', inv x' ∧ meas x' = N ∧ ts2 = putS ts (f x') ∧ h2 = putH h (g x'))
      | .exit j => Q (.exit j) ts' h'
      | .ret => Q .ret ts' h') : LoopK dl ts h body Q := by
  refine ⟨h.length, fun N ts2 h2 => ∃ x', inv x' ∧ meas x' = N ∧ ts2 = putS ts (f x') ∧ h2 = putH h (g x'), Ent.refl ⟨Nat.le_refl _, meas x0, x0, h0, rfl, h1.symm, h2.symm⟩, ?_⟩
  rintro N ts2 h3 ⟨x, hx, hm, rfl, rfl⟩
  exact step x N hx hm.symm
theorem RoundK.next {X : Type} {m : Nat} {ts0 : List D} {h0 : H} {ts : List D} {h : H} {N : Nat} {f : X → List (Nat × D)} {g : X → List (Nat × Cell)} {meas : X → Nat} {inv : X → Prop} (x : X) (h1 : inv x) (h2 : meas x < N) (h3 : ts = putS ts0 (f x)) (h4 : h = putH h0 (g x)) :
    RoundK m ts h N (fun N ts2 h2 => ∃ x', inv x' ∧ meas x' = N ∧ ts2 = putS ts0 (f x') ∧ h2 = putH h0 (g x')) := ⟨meas x, h2, Wkn.refl ⟨x, h1, rfl, h3, h4⟩⟩
/-- The same, where the round's own boxes are forgotten. -/
theorem RoundK.forget {X : Type} {m : Nat} {ts0 : List D} {h0 : H} {ts : List D} {h : H} {N : Nat} {f : X → List (Nat × D)} {g : X → List (Nat × Cell)} {meas : X → Nat} {inv : X → Prop} (x : X) (h1 : inv x) (h2 : meas x < N) (h3 : ts = putS ts0 (f x)) (h4 : h.take m = putH h0 (g x)) (h5 : idbL m ts = true) (h6 : (h.take m).all (cellIdb m) = true) :
    RoundK m ts h N (fun N ts2 h2 => ∃ x', inv x' ∧ meas x' = N ∧ ts2 = putS ts0 (f x') ∧ h2 = putH h0 (g x')) := ⟨meas x, h2, Wkn.gc h5 h6 (Wkn.refl ⟨x, h1, rfl, h3, h4⟩)⟩
/-- What a slice's elements are: their type, cells, and bytes. -/
def ElemIs (P : Program) (t e sz bytes : Nat) : Prop := (elemP P t).map (fun x => (x.1, x.2.size, x.2.bytes, x.2.zero.map (·.cells.size), decide (0 < x.2.size))) = some (e, sz, bytes, some sz, true)
theorem ElemIs.out {P : Program} {t e sz bytes : Nat} (h : ElemIs P t e sz bytes) : ∃ inf, elemP P t = some (e, inf) ∧ inf.size = sz ∧ inf.bytes = bytes ∧ (0 < inf.size ∧ inf.zero.map (·.cells.size) = some inf.size) := by
  obtain ⟨⟨e', inf⟩, h1, h2⟩ := Option.map_eq_some_iff.1 h
  simp only [Prod.mk.injEq, decide_eq_true_eq] at h2
  obtain ⟨rfl, rfl, rfl, h3, h4⟩ := h2
  exact ⟨inf, h1, rfl, rfl, h4, h3⟩
theorem srcD_sl {P : Program} {tx e sz bytes sz' : Nat} {tag : Option Nat} {ys : List D} (h : ElemIs P tx e sz bytes) : srcD P tx sz' (.sl tag sz' ys) = some ys := by
  obtain ⟨inf, h1, _⟩ := h.out
  simp [srcD, (elemP_some h1).1]
theorem srcD_str {P : Program} {tx : TypeId} {s : ByteArray} (h : P.underlying tx = some .string) : srcD P tx 1 (.raw (.string s)) = some (s.data.toList.map fun b => .raw (.int .u8 b.toNat)) := by
  simp [srcD, h]
/-! ### Rows that turn -/
theorem flat_at {sz : Nat} : ∀ {E : List (List D)} {j : Nat} {row : List D}, (∀ r ∈ E, r.length = sz) → E[j]? = some row → (E.flatten.drop (j * sz)).take sz = row ∧ j * sz + sz ≤ E.flatten.length
  | [], j, row, _, h => by simp at h
  | r :: E, 0, row, hE, h => by
    simp at h
    subst h
    have := hE r (List.mem_cons_self ..)
    simp [← this]
  | r :: E, j + 1, row, hE, h => by
    have h1 := hE r (List.mem_cons_self ..)
    obtain ⟨k1, k2⟩ := flat_at (E := E) (j := j) (fun x hx => hE x (List.mem_cons_of_mem _ hx)) (by simpa using h)
    have e : (j + 1) * sz = r.length + j * sz := by rw [h1, Nat.add_mul]; omega
    rw [e, List.flatten_cons, ← List.drop_drop, List.drop_left, List.length_append]
    exact ⟨k1, by omega⟩
theorem flat_set {sz : Nat} : ∀ {E : List (List D)} {j : Nat} {row : List D} (row' : List D), (∀ r ∈ E, r.length = sz) → E[j]? = some row → row'.length = sz → (E.set j row').flatten = E.flatten.take (j * sz) ++ row' ++ E.flatten.drop (j * sz + sz)
  | [], j, row, _, _, h, _ => by simp at h
  | r :: E, 0, row, row', hE, h, hl => by
    have h1 := hE r (List.mem_cons_self ..)
    simp [← h1]
  | r :: E, j + 1, row, row', hE, h, hl => by
    have h1 := hE r (List.mem_cons_self ..)
    have k := flat_set (E := E) (j := j) row' (fun x hx => hE x (List.mem_cons_of_mem _ hx)) (by simpa using h) hl
    have e : (j + 1) * sz = r.length + j * sz := by rw [h1, Nat.add_mul]; omega
    rw [List.set_cons_succ, List.flatten_cons, k, List.flatten_cons, e, Nat.add_assoc, List.take_append, List.take_of_length_le (Nat.le_add_right _ _), Nat.add_sub_cancel_left]
    have e2 : (r ++ E.flatten).drop (r.length + (j * sz + sz)) = E.flatten.drop (j * sz + sz) := by rw [← List.drop_drop, List.drop_left]
    rw [e2]
    simp
theorem MLoadK.row {t : TypeId} {ds : List D} {sz j fld : Nat} {K : D → Prop} {E : List (List D)} {row : List D} {d : D} (hds : ds = E.flatten) (hE : ∀ r ∈ E, r.length = sz) (hr : E[j]? = some row) (hp : partD (T ()) t row fld = some d) (hk : K d) : MLoadK T t ds sz j fld K := by
  refine ⟨d, ?_, hk⟩
  obtain ⟨h1, h2⟩ := flat_at hE hr
  have hl : row.length = sz := hE row (List.mem_of_getElem? hr)
  subst hds
  unfold partD at hp ⊢
  split at hp
  · rename_i n hag
    split at hp
    · rename_i hle
      cases hp
      rw [if_pos (by omega)]
      congr 2
      rw [← h1, List.drop_take, List.take_take, List.drop_drop, Nat.min_eq_left (by omega), Nat.add_comm]
    · cases hp
  · rename_i n hag
    have hlt := (List.getElem?_eq_some_iff.1 hp).1
    rw [← h1, List.getElem?_take_of_lt (by omega), List.getElem?_drop] at hp
    rw [Nat.add_comm]
    exact hp
  · cases hp
theorem MStoreK.row {es : List D} {size : Nat} {ds : List D} {sz j fld : Nat} {K : List D → Prop} {E : List (List D)} {row : List D} (hds : ds = E.flatten) (hE : ∀ r ∈ E, r.length = sz) (hr : E[j]? = some row) (h1 : es.length = size) (h2 : fld + es.length ≤ sz) (h3 : es.all leafD = true)
    (hk : ∀ ds', ds' = (E.set j (splice row fld es)).flatten → K ds') : MStoreK es size ds sz j fld K := by
  obtain ⟨k1, k2⟩ := flat_at hE hr
  have hl : row.length = sz := hE row (List.mem_of_getElem? hr)
  have hsl : (splice row fld es).length = sz := by simp [splice]; omega
  refine ⟨⟨h1, by rw [hds]; omega, h3⟩, hk _ ?_⟩
  rw [flat_set _ hE hr hsl, hds]
  subst hds
  have e1 : E.flatten.take (fld + j * sz) = E.flatten.take (j * sz) ++ row.take fld := by
    rw [Nat.add_comm, List.take_add, ← k1, List.take_take, Nat.min_eq_left (by omega)]
  have e2 : E.flatten.drop (fld + j * sz + es.length) = row.drop (fld + es.length) ++ E.flatten.drop (j * sz + sz) := by
    have : E.flatten.drop (j * sz) = row ++ E.flatten.drop (j * sz + sz) := by
      rw [← k1, ← List.drop_drop, List.take_append_drop]
    rw [show fld + j * sz + es.length = j * sz + (fld + es.length) by omega, ← List.drop_drop, this, List.drop_append_of_le_length (by omega)]
  simp only [splice]
  rw [e1, e2]
  simp
theorem MIdxK.intro {n : Int} {len : Nat} {K : Nat → Prop} (h0 : 0 ≤ n) (h1 : n.toNat < len) (hk : ∀ j, j = n.toNat → K j) : MIdxK n len K := ⟨h0, h1, hk _ rfl⟩
theorem range_flat {α : Type} [Inhabited α] (l : Array α) : ∀ n : Nat, (List.range (n * l.size)).map (fun k => l[k % l.size]!) = (List.replicate n l.toList).flatten
  | 0 => by simp
  | n + 1 => by
    rw [Nat.add_mul, Nat.one_mul, List.range_add, List.map_append, range_flat l n, List.replicate_succ', List.flatten_append]
    congr 1
    simp only [List.flatten_cons, List.flatten_nil, List.append_nil, List.map_map]
    apply List.ext_getElem
    · simp
    · intro i h1 h2
      simp at h1
      simp [Nat.add_mod, Nat.mod_eq_of_lt h1, h1]
theorem MakeK.row {h : H} {t e sz bytes : Nat} {K : D → H → Prop} {l c : Int} {z : List D} (he : ElemIs (T ()) t e sz bytes) (hz : zeroD (T ()) e = some z) (hl : 0 ≤ l) (hc : c = l) (hr : l.toNat ≤ 140737488355328 ∧ l.toNat * bytes ≤ 140737488355328)
    (hk : ∀ ds n, n = l.toNat → ds = (List.replicate n z).flatten → K (.ms h.length 0 n) (h ++ [.box e ds])) : MakeK T h t (.raw (.int .i64 l)) (.raw (.int .i64 c)) K := by
  obtain ⟨inf, h1, rfl, rfl, h4, h5⟩ := he.out
  obtain ⟨h1a, h1b⟩ := elemP_some h1
  obtain ⟨i, zv, k1, k2, k3, k4⟩ := zeroD_some hz
  rw [h1b] at k1
  cases k1
  rw [k2] at h5
  simp at h5
  subst hc
  by_cases h0 : c = 0
  · subst h0
    exact ⟨.ms h.length 0 0, h ++ [.box e []], by simp [makeD, h1], hk [] 0 rfl rfl⟩
  have hpos : 0 < c.toNat * inf.size := Nat.mul_pos (by omega) h4
  have hrz : rowZero (T ()) e c.toNat inf.size = some ((List.range (c.toNat * inf.size)).map (fun k => zv.cells[k % zv.cells.size]!)) := by
    unfold rowZero
    rw [if_neg (by omega), h1b]
    simp only [k2]
    have : zv.cells.all (·.oneCell') = true := Array.all_eq_true_iff_forall_mem.2 fun x hx => k3 x (by simpa using hx)
    rw [if_pos this]
  refine ⟨.ms h.length 0 c.toNat, h ++ [.box e ((List.replicate c.toNat z).flatten)], ?_, hk _ _ rfl rfl⟩
  simp only [makeD, h1]
  rw [if_neg (by omega), if_pos ⟨by omega, Int.le_refl _, by simp [roomy, hr], h4, hpos⟩, hrz]
  simp only [if_neg (show ¬ c = 0 by omega)]
  have e1 : (List.range (c.toNat * inf.size)).map (fun k => zv.cells[k % zv.cells.size]!) = (List.replicate c.toNat zv.cells.toList).flatten := by
    rw [← h5]
    exact range_flat zv.cells c.toNat
  rw [e1, k4]
  simp [List.map_flatten]
/-! ### Parts of rows -/
theorem SlK.to {ds : List D} {K : List D → Prop} {n : Int} (h0 : 0 ≤ n) (hk : n.toNat ≤ ds.length) (hK : ∀ L, L = ds.take n.toNat → K L) : SlK ds none (some (.raw (.int .i64 n))) K := by
  refine ⟨0, n.toNat, rfl, ?_, Nat.zero_le _, hk, by simpa using hK _ rfl⟩
  simp [boundD, h0]
theorem SlK.from {ds : List D} {K : List D → Prop} {n : Int} (h0 : 0 ≤ n) (hk : n.toNat ≤ ds.length) (hK : ∀ L, L = ds.drop n.toNat → K L) : SlK ds (some (.raw (.int .i64 n))) none K := by
  refine ⟨n.toNat, ds.length, ?_, rfl, hk, Nat.le_refl _, by simpa using hK _ rfl⟩
  simp [boundD, h0]
theorem SlK.all {ds : List D} {K : List D → Prop} (hK : K ds) : SlK ds none none K := ⟨0, ds.length, rfl, rfl, Nat.zero_le _, Nat.le_refl _, by simpa using hK⟩
theorem HAppK.row {t tx e : TypeId} {inf : TypeInfo} {x : D} {K : HD → Prop} {ys ds : List D} (he : elemP (T ()) t = some (e, inf)) (hs : srcD (T ()) tx inf.size x = some ys) (h0 : 0 < inf.size ∧ inf.zero.map (·.cells.size) = some inf.size) (hr : ds.length + ys.length ≤ 140737488355328 ∧ (ds.length + ys.length) * inf.bytes ≤ 140737488355328)
    (hk : ∀ L, L = ds ++ ys → K (.fs e inf.size L)) : HAppK T t tx (.fs e inf.size ds) x K := by
  refine ⟨.fs e inf.size (ds ++ ys), ?_, hk _ rfl⟩
  simp [hAppend, he, hs, h0, roomy, hr]
theorem HAppK.nil {t tx e : TypeId} {inf : TypeInfo} {x : D} {K : HD → Prop} {ys : List D} (he : elemP (T ()) t = some (e, inf)) (hs : srcD (T ()) tx inf.size x = some ys) (h0 : 0 < inf.size ∧ inf.zero.map (·.cells.size) = some inf.size) (hr : ys.length ≤ 140737488355328 ∧ ys.length * inf.bytes ≤ 140737488355328)
    (hk : ∀ L, L = ys → K (.fs e inf.size L)) : HAppK T t tx (.d (.raw (.slice none 0 0))) x K := by
  refine ⟨.fs e inf.size ys, ?_, hk _ rfl⟩
  simp [hAppend, he, hs, h0, roomy, hr]
section appends
variable {h : H} {t tx e e' sz sz' bytes bytes' : Nat} {tag : Option Nat} {ys ds : List D}
theorem HAppK.sl {K : HD → Prop} (he : ElemIs (T ()) t e sz bytes) (hx : ElemIs (T ()) tx e' sz' bytes') (hr : ds.length + ys.length ≤ 140737488355328 ∧ (ds.length + ys.length) * bytes ≤ 140737488355328) (hk : ∀ L, L = ds ++ ys → K (.fs e sz L)) : HAppK T t tx (.fs e sz ds) (.sl tag sz ys) K := by
  obtain ⟨inf, h1, rfl, rfl, h4⟩ := he.out
  exact HAppK.row h1 (srcD_sl hx) h4 hr hk
theorem HAppK.nilSl {K : HD → Prop} (he : ElemIs (T ()) t e sz bytes) (hx : ElemIs (T ()) tx e' sz' bytes') (hr : ys.length ≤ 140737488355328 ∧ ys.length * bytes ≤ 140737488355328) (hk : ∀ L, L = ys → K (.fs e sz L)) : HAppK T t tx (.d (.raw (.slice none 0 0))) (.sl tag sz ys) K := by
  obtain ⟨inf, h1, rfl, rfl, h4⟩ := he.out
  exact HAppK.nil h1 (srcD_sl hx) h4 hr hk
theorem AppK.nilSl {K : D → H → Prop} (he : ElemIs (T ()) t e sz bytes) (hx : ElemIs (T ()) tx e' sz' bytes') (hr : ys.length ≤ 140737488355328 ∧ ys.length * bytes ≤ 140737488355328) (hk : ∀ L n, L = ys → n = L.length → K (.sl (some h.length) sz L) (h ++ [.log e sz n])) : AppK T h t tx (.raw (.slice none 0 0)) (.sl tag sz ys) K := by
  obtain ⟨inf, h1, rfl, rfl, h4⟩ := he.out
  exact AppK.nil h1 (srcD_sl hx) h4 hr fun L n h2 h3 => hk L n h2 (by rw [h2]; exact h3)
theorem AppK.sl {K : D → H → Prop} {id n : Nat} (he : ElemIs (T ()) t e sz bytes) (hx : ElemIs (T ()) tx e' sz' bytes') (hl : h[id]? = some (.log e sz n)) (hn : n = ds.length) (hr : ds.length + ys.length ≤ 140737488355328 ∧ (ds.length + ys.length) * bytes ≤ 140737488355328) (hk : ∀ L n, L = ds ++ ys → n = L.length → K (.sl (some id) sz L) (h.set id (.log e sz n))) : AppK T h t tx (.sl (some id) sz ds) (.sl tag sz ys) K := by
  obtain ⟨inf, h1, rfl, rfl, h4⟩ := he.out
  exact AppK.log h1 (srcD_sl hx) h4 hl hn hr hk
theorem AppK.str {K : D → H → Prop} {id n : Nat} {s : ByteArray} (he : ElemIs (T ()) t e 1 bytes) (hx : (T ()).underlying tx = some .string) (hl : h[id]? = some (.log e 1 n)) (hn : n = ds.length) (hr : ds.length + s.size ≤ 140737488355328 ∧ (ds.length + s.size) * bytes ≤ 140737488355328) (hk : ∀ L n, L = ds ++ (s.data.toList.map fun b => D.raw (.int .u8 b.toNat)) → n = L.length → K (.sl (some id) 1 L) (h.set id (.log e 1 n))) : AppK T h t tx (.sl (some id) 1 ds) (.raw (.string s)) K := by
  obtain ⟨inf, h1, h2, rfl, h4⟩ := he.out
  have := AppK.log (T := T) (K := K) (h := h) (t := t) (tx := tx) (e := e) (inf := inf) (x := .raw (.string s)) (ys := s.data.toList.map fun b => .raw (.int .u8 b.toNat)) (ds := ds) (id := id) (n := n) h1 (by rw [h2]; exact srcD_str hx) h4 (by rw [h2]; exact hl) hn (by simpa using hr) (by rw [h2]; exact hk)
  rwa [h2] at this
end appends
/-! ### What a box holds, told more weakly -/
theorem box_weak {C : Cx} {w : World} {h : H} (s : Sim C h w) {id j : Nat} {t : TypeId} {ds : List D} {d : D} (d' : D) (hid : h[id]? = some (.box t ds)) (hd : ds[j]? = some d) (hr : ∀ v, Rd C w d v → Rd C w d' v) : Sim C (h.set id (.box t (ds.set j d'))) w := by
  have hlt := (List.getElem?_eq_some_iff.1 hid).1
  refine s.weak (by simp) (fun id' t' ds' e => ?_) (fun id' e sz n e' => ?_) (fun id' b P e => (set_old e (fun h => by cases h)).2)
  · rw [List.getElem?_set] at e
    split at e
    · rename_i hi
      subst hi
      simp [hlt] at e
      obtain ⟨rfl, rfl⟩ := e
      exact ⟨ds, hid, fun vs r => set_rd r hd hr⟩
    · exact ⟨ds', e, fun vs r => r⟩
  · rw [List.getElem?_set] at e'
    split at e'
    · simp [hlt] at e'
    · exact e'
theorem Wkn.cell {m : Nat} {ts : List D} {h : H} {J : List D → H → Prop} {id j : Nat} {t : TypeId} {ds : List D} {d : D} (d' : D) (hid : h[id]? = some (.box t ds)) (hd : ds[j]? = some d) (hr : ∀ C w v, Rd C w d v → Rd C w d' v) (k : Wkn m ts (h.set id (.box t (ds.set j d'))) J) : Wkn m ts h J := fun C0 w0 C w a hb hl f s ta =>
  k C0 w0 C w a hb hl f (box_weak s d' hid hd (hr C w)) ta
theorem Ent.cell {ts : List D} {h : H} {J : List D → H → Prop} {id j : Nat} {t : TypeId} {ds : List D} {d : D} (d' : D) (hid : h[id]? = some (.box t ds)) (hd : ds[j]? = some d) (hr : ∀ C w v, Rd C w d v → Rd C w d' v) (k : Ent ts (h.set id (.box t (ds.set j d'))) J) : Ent ts h J := fun C w a s ta =>
  k C w a (box_weak s d' hid hd (hr C w)) ta
theorem LoopK.cell {dl : List Tmp} {ts : List D} {h : H} {body : List D → H → (AExit → List D → H → Prop) → Prop} {Q : AExit → List D → H → Prop} (id j : Nat) {t : TypeId} {ds : List D} {d : D} (d' : D) (hid : h[id]? = some (.box t ds)) (hd : ds[j]? = some d) (hr : ∀ C w v, Rd C w d v → Rd C w d' v) (k : LoopK dl ts (h.set id (.box t (ds.set j d'))) body Q) : LoopK dl ts h body Q := by
  obtain ⟨m, I, he, hr'⟩ := k.out
  exact ⟨m, I, Ent.cell d' hid hd hr he, hr'⟩
/-- A nil slice in a box, from here on a row of its own. -/
theorem LoopK.cellLog {dl : List Tmp} {ts : List D} {h : H} {body : List D → H → (AExit → List D → H → Prop) → Prop} {Q : AExit → List D → H → Prop} (id j : Nat) (e sz : Nat) {t : TypeId} {ds : List D} (hid : h[id]? = some (.box t ds)) (hd : ds[j]? = some (.raw (.slice none 0 0)))
    (k : LoopK dl ts (h.set id (.box t (ds.set j (.sl (some h.length) sz []))) ++ [.log e sz 0]) body Q) : LoopK dl ts h body Q := by
  obtain ⟨m, I, he, hr⟩ := k.out
  refine ⟨m, I, fun C w a s ta => ?_, hr⟩
  obtain ⟨C', f, s', hl⟩ := s.log_nil e sz
  have hlt := (List.getElem?_eq_some_iff.1 hid).1
  have s2 := box_weak s' (.sl (some h.length) sz []) (id := id) (j := j) (t := t) (ds := ds) (by rw [List.getElem?_append_left hlt]; exact hid) hd fun v hv => by
    simp only [Rd] at hv
    subst hv
    exact ⟨⟨none, 0, rfl, Nat.le_refl _, Nat.zero_le _⟩, fun h0 => absurd h0 (Nat.lt_irrefl _), fun id e => by cases e; exact ⟨_, hl, Nat.zero_le _, fun _ => rfl⟩⟩
  rw [List.set_append_left _ _ hlt] at s2
  obtain ⟨C2, ts', h', k1, k2, k3, k4⟩ := he C' w a s2 (ta.mono f.toEv)
  exact ⟨C2, ts', h', k1, f.trans k2, k3, k4⟩
theorem RoundK.cell {m : Nat} {ts : List D} {h : H} {N : Nat} {I : Nat → List D → H → Prop} (id j : Nat) {t : TypeId} {ds : List D} {d : D} (d' : D) (hid : h[id]? = some (.box t ds)) (hd : ds[j]? = some d) (hr : ∀ C w v, Rd C w d v → Rd C w d' v) (k : RoundK m ts (h.set id (.box t (ds.set j d'))) N I) : RoundK m ts h N I := by
  obtain ⟨N', h1, h2⟩ := k.out
  exact ⟨N', h1, h2.cell d' hid hd hr⟩
theorem RoundK.slot {m : Nat} {ts : List D} {h : H} {N : Nat} {I : Nat → List D → H → Prop} (j : Nat) {d : D} (d' : D) (hd : ts[j]? = some d) (hr : ∀ C w v, Rd C w d v → Rd C w d' v) (k : RoundK m (ts.set j d') h N I) : RoundK m ts h N I := by
  obtain ⟨N', h1, h2⟩ := k.out
  exact ⟨N', h1, h2.slot d' hd hr⟩
theorem untag_any (tag : Option Nat) (sz : Nat) (ds : List D) : ∀ (C : Cx) (w : World) (v : Value), Rd C w (.sl tag sz ds) v → Rd C w (.sl none sz ds) v := fun C w v ⟨h1, h2, _⟩ => ⟨h1, h2, fun id e => by cases e⟩
theorem nil_any (sz : Nat) : ∀ (C : Cx) (w : World) (v : Value), Rd C w (.raw (.slice none 0 0)) v → Rd C w (.sl none sz []) v := fun C w v h => by
  simp only [Rd] at h
  subst h
  exact ⟨⟨none, 0, rfl, Nat.le_refl _, Nat.zero_le _⟩, fun h => absurd h (by simp), fun id e => by cases e⟩
theorem to_any (d : D) : ∀ (C : Cx) (w : World) (v : Value), Rd C w d v → Rd C w .any v := fun _ _ _ _ => trivial
/-- d is told more weakly by d'. -/
def Wk (d d' : D) : Prop := ∀ (C : Cx) (w : World) (v : Value), Rd C w d v → Rd C w d' v
def WkL (ds es : List D) : Prop := ∀ (C : Cx) (w : World) (vs : List Value), RdL C w ds vs → RdL C w es vs
theorem Wk.refl (d : D) : Wk d d := fun _ _ _ h => h
theorem WkL.nil : WkL [] [] := fun _ _ _ h => h
theorem WkL.refl (ds : List D) : WkL ds ds := fun _ _ _ h => h
theorem WkL.cons {d d' : D} {ds es : List D} (h : Wk d d') (k : WkL ds es) : WkL (d :: ds) (d' :: es) := fun C w _ ⟨v, rest, hv, h1, h2⟩ => ⟨v, rest, hv, h C w v h1, k C w rest h2⟩
theorem Wk.agg {ds es : List D} (h : WkL ds es) : Wk (.agg ds) (.agg es) := fun C w _ ⟨vs, hv, r⟩ => ⟨vs, hv, h C w vs r⟩
theorem Wk.tup {ds es : List D} (h : WkL ds es) : Wk (.tup ds) (.tup es) := fun C w _ ⟨vs, hv, r⟩ => ⟨vs, hv, h C w vs r⟩
theorem CW.weaken {P : Program} {k : FuncId} {ds : List D} {h : H} {Q R : D → H → Prop} (c : CW P k ds h Q) (hq : ∀ d h', Q d h' → ∃ d', Wk d d' ∧ R d' h') : CW P k ds h R :=
  ⟨c.1, fun C w args s r => (c.2 C w args s r).mono fun e w' ⟨v, C', d, h', h1, h2, h3, h4, h5⟩ => by
    obtain ⟨d', k1, k2⟩ := hq d h' h2
    exact ⟨v, C', d', h', h1, k2, h3, h4, k1 _ _ _ h5⟩⟩
/-! ### Frames -/
/-- A call's own boxes are forgotten. -/
theorem CW.gc {P : Program} {k : FuncId} {ds : List D} {h : H} {Q R : D → H → Prop} (c : CW P k ds h Q) (hq : ∀ d h', Q d h' → idb h.length d = true ∧ (h'.take h.length).all (cellIdb h.length) = true ∧ R d (h'.take h.length)) : CW P k ds h R := by
  refine ⟨c.1, fun C w args s r => (c.2 C w args s r).mono ?_⟩
  rintro e w' ⟨v, C', d, h', h1, h2, f, s', r'⟩
  obtain ⟨k1, k2, k3⟩ := hq d h' h2
  exact ⟨v, C'.cut h.length, d, h'.take h.length, h1, k3, f.cut s.idb s.idl, s'.cut k2, r'.cut d k1⟩
mutual
/-- The ids, named otherwise. -/
def renD (f : Nat → Nat) : D → D
  | .agg ds => .agg (renL f ds)
  | .tup ds => .tup (renL f ds)
  | .sl tag sz ds => .sl (tag.map f) sz (renL f ds)
  | .bx id off => .bx (f id) off
  | .ms id off n => .ms (f id) off n
  | .mp id sz j fld => .mp (f id) sz j fld
  | .pe d off => .pe (renD f d) off
  | .fn g a b => .fn g (renL f a) (renL f b)
  | .ifc t d => .ifc t (renD f d)
  | .any => .any
  | .raw v => .raw v
  | .sln n => .sln n
def renL (f : Nat → Nat) : List D → List D
  | [] => []
  | d :: ds => renD f d :: renL f ds
end
def renC (f : Nat → Nat) : Cell → Cell
  | .box t ds => .box t (renL f ds)
  | .log e sz n => .log e sz n
  | .dead => .dead
  | .keep b P => .keep b P
theorem renL_len (f : Nat → Nat) : ∀ ds : List D, (renL f ds).length = ds.length
  | [] => rfl
  | _ :: ds => by simp [renL, renL_len f ds]
/-- The ids below m of C0 are those that f names in C. -/
structure RenCx (f : Nat → Nat) (m : Nat) (C0 C : Cx) : Prop where
  S : ∀ b o, C0.S b o ↔ C.S b o
  bx : ∀ i, i < m → C0.bx i = C.bx (f i)
  lg : ∀ i, i < m → C0.lg i = C.lg (f i)
mutual
theorem ren_rd {f : Nat → Nat} {m : Nat} {C0 C : Cx} (hc : RenCx f m C0 C) {w : World} : ∀ (d : D) {v : Value}, idb m d = true → (Rd C0 w d v ↔ Rd C w (renD f d) v)
  | .any, _, _ => Iff.rfl
  | .raw _, _, _ => Iff.rfl
  | .sln _, _, _ => Iff.rfl
  | .agg ds, v, hi => by
    simp only [idb] at hi
    simp only [Rd, renD]
    exact exists_congr fun vs => and_congr_right fun _ => ren_rdL hc ds hi
  | .tup ds, v, hi => by
    simp only [idb] at hi
    simp only [Rd, renD]
    exact exists_congr fun vs => and_congr_right fun _ => ren_rdL hc ds hi
  | .sl tag sz ds, v, hi => by
    simp only [idb, Bool.and_eq_true] at hi
    obtain ⟨ht, hi⟩ := hi
    simp only [Rd, renD, renL_len]
    refine and_congr_right fun _ => and_congr ?_ ?_
    · refine forall_congr' fun _ => exists_congr fun b => exists_congr fun off => exists_congr fun cap => and_congr_right fun _ => and_congr ?_ (ren_rdE hc sz ds hi)
      exact forall_congr' fun i => forall_congr' fun _ => hc.S _ _
    · cases tag with
      | none => simp
      | some id =>
        simp only [decide_eq_true_eq] at ht
        simp only [Option.map_some, Option.some.injEq, forall_eq']
        rw [hc.lg id ht]
  | .bx id off, v, hi => by
    simp only [idb, decide_eq_true_eq] at hi
    simp only [Rd, renD, hc.bx id hi]
  | .ms id off n, v, hi => by
    simp only [idb, decide_eq_true_eq] at hi
    simp only [Rd, renD, hc.bx id hi]
  | .mp id sz j fld, v, hi => by
    simp only [idb, decide_eq_true_eq] at hi
    simp only [Rd, renD, hc.bx id hi]
  | .pe d off, v, hi => by
    simp only [idb] at hi
    simp only [Rd, renD]
    refine exists_congr fun b => exists_congr fun o => exists_congr fun u => and_congr_right fun _ => and_congr (ren_rd hc d hi) ?_
    exact forall_congr' fun i => forall_congr' fun _ => and_congr (hc.S _ _) Iff.rfl
  | .fn g a b, v, hi => by
    simp only [idb, Bool.and_eq_true] at hi
    simp only [Rd, renD]
    exact exists_congr fun vs => exists_congr fun us => and_congr_right fun _ => and_congr (ren_rdL hc a hi.1) (ren_rdL hc b hi.2)
  | .ifc t d, v, hi => by
    simp only [idb] at hi
    simp only [Rd, renD]
    exact exists_congr fun u => and_congr_right fun _ => ren_rd hc d hi
theorem ren_rdL {f : Nat → Nat} {m : Nat} {C0 C : Cx} (hc : RenCx f m C0 C) {w : World} : ∀ (ds : List D) {vs : List Value}, idbL m ds = true → (RdL C0 w ds vs ↔ RdL C w (renL f ds) vs)
  | [], _, _ => Iff.rfl
  | d :: ds, vs, hi => by
    simp only [idbL, Bool.and_eq_true] at hi
    simp only [RdL, renL]
    exact exists_congr fun v => exists_congr fun rest => and_congr_right fun _ => and_congr (ren_rd hc d hi.1) (ren_rdL hc ds hi.2)
theorem ren_rdE {f : Nat → Nat} {m : Nat} {C0 C : Cx} (hc : RenCx f m C0 C) {w : World} (sz : Nat) : ∀ (ds : List D) {g : Nat → Option Value}, idbL m ds = true → (RdE C0 w sz ds g ↔ RdE C w sz (renL f ds) g)
  | [], _, _ => Iff.rfl
  | d :: ds, g, hi => by
    simp only [idbL, Bool.and_eq_true] at hi
    simp only [RdE, renL]
    exact and_congr (exists_congr fun u => and_congr (ren_rd hc d hi.1) Iff.rfl) (ren_rdE hc sz ds hi.2)
end
def idxOf (f : Nat → Nat) (id : Nat) : Nat → Option Nat
  | 0 => none
  | m + 1 => if f m = id then some m else idxOf f id m
theorem idxOf_some {f : Nat → Nat} {id : Nat} : ∀ {m i : Nat}, idxOf f id m = some i → i < m ∧ f i = id
  | 0, i, e => by simp [idxOf] at e
  | m + 1, i, e => by
    simp only [idxOf] at e
    split at e
    · cases e; exact ⟨Nat.lt_succ_self _, by assumption⟩
    · obtain ⟨h1, h2⟩ := idxOf_some e
      exact ⟨by omega, h2⟩
theorem idxOf_none {f : Nat → Nat} {id : Nat} : ∀ {m : Nat}, idxOf f id m = none → ∀ i, i < m → f i ≠ id
  | 0, _, i, hi => absurd hi (Nat.not_lt_zero _)
  | m + 1, e, i, hi => by
    simp only [idxOf] at e
    split at e
    · cases e
    · rename_i hne
      by_cases him : i = m
      · subst him; exact hne
      · exact idxOf_none e i (by omega)
/-- h with the part that f names put in. -/
def mergeH (f : Nat → Nat) (h h0 : H) : H := (List.range h.length).map fun id => match idxOf f id h0.length with
  | some i => renC f (h0.getD i (.log 0 0 0))
  | none => h.getD id (.log 0 0 0)
theorem mergeH_get {f : Nat → Nat} {h h0 : H} {id : Nat} {c : Cell} (e : (mergeH f h h0)[id]? = some c) : (∃ i, i < h0.length ∧ f i = id ∧ ∃ c0, h0[i]? = some c0 ∧ c = renC f c0) ∨ ((∀ i, i < h0.length → f i ≠ id) ∧ h[id]? = some c) := by
  unfold mergeH at e
  rw [List.getElem?_map, Option.map_eq_some_iff] at e
  obtain ⟨id', h1, h2⟩ := e
  obtain ⟨hlt, h1⟩ := List.getElem?_eq_some_iff.1 h1
  simp at h1 hlt
  subst h1
  split at h2
  · rename_i i hi
    obtain ⟨k1, k2⟩ := idxOf_some hi
    exact .inl ⟨i, k1, k2, h0[i], List.getElem?_eq_getElem k1, by rw [← h2]; simp [List.getD, List.getElem?_eq_getElem k1]⟩
  · rename_i hi
    refine .inr ⟨idxOf_none hi, ?_⟩
    rw [← h2]
    simp [List.getD, List.getElem?_eq_getElem hlt]
theorem own_block {w w' : World} {base e sz n : Nat} {v : Value} {xs : List Value} (h : w.ownsRow base e sz v n xs) (hb : ∀ b, v.ownBlock = some b → w'.heap[b]? = w.heap[b]?) : w'.ownsRow base e sz v n xs := by
  obtain ⟨h1, h2⟩ := h
  refine ⟨h1, ?_⟩
  rcases h2 with h2 | ⟨g, cap, cur, rfl, h3, h4, h5⟩
  · exact .inl h2
  · exact .inr ⟨g, cap, cur, rfl, h3, (hb g rfl).trans h4, h5⟩
/-- A call that knows a part of the boxes leaves all others. -/
theorem CW.frame {P : Program} {k : FuncId} {ds0 ds : List D} {h0 h : H} {Q0 : D → H → Prop} (f : Nat → Nat) (c : CW P k ds0 h0 Q0)
    (hds : ds = renL f ds0) (hid : idbL h0.length ds0 = true) (hcells : h0.all (cellIdb h0.length) = true) (hinj : ∀ i j, i < h0.length → j < h0.length → f i = f j → i = j)
    (hh : ∀ i, i < h0.length → (h0[i]?).map (renC f) = h[f i]?)
    (hq : ∀ d h', Q0 d h' → h'.length = h0.length ∧ idb h0.length d = true ∧ h'.all (cellIdb h0.length) = true) :
    CW P k ds h fun d h' => ∃ d0 h0', Q0 d0 h0' ∧ d = renD f d0 ∧ h' = mergeH f h h0' := by
  refine ⟨c.1, fun C w args s r => ?_⟩
  let C0 : Cx := ⟨C.S, fun i => if i < h0.length then C.bx (f i) else none, fun i => if i < h0.length then C.lg (f i) else none⟩
  have hren : RenCx f h0.length C0 C := ⟨fun _ _ => Iff.rfl, fun i hi => if_pos hi, fun i hi => if_pos hi⟩
  have hblk : ∀ {i b}, C0.blk i b → i < h0.length ∧ C.blk (f i) b := fun {i b} hb => by
    rcases hb with hb | ⟨u, hb, hu⟩
    · simp only [C0] at hb
      split at hb
      · rename_i hi; exact ⟨hi, .inl hb⟩
      · cases hb
    · simp only [C0] at hb
      split at hb
      · rename_i hi; exact ⟨hi, .inr ⟨u, hb, hu⟩⟩
      · cases hb
  have hcell : ∀ {i c}, h0[i]? = some c → cellIdb h0.length c = true := fun {i c} e => List.all_eq_true.1 hcells c (List.mem_of_getElem? e)
  have hlt0 : ∀ {i c}, h0[i]? = some c → i < h0.length := fun {i c} e => (List.getElem?_eq_some_iff.1 e).1
  have s0 : Sim C0 h0 w := by
    refine ⟨s.S, fun i t ds e => ?_, fun i e sz n e' => ?_, fun i b hb => s.lt _ b (hblk hb).2, fun i b hb => (hblk (.inl hb)).1, fun i u hu => ?_, fun i j b hi hj => ?_, fun i b hb => ?_, fun i b P e => ?_⟩
    · have := hh i (hlt0 e)
      rw [e] at this
      obtain ⟨b, vs, k1, k2, k3, k4, k5⟩ := s.box (f i) t _ this.symm
      exact ⟨b, vs, (hren.bx i (hlt0 e)).trans k1, k2, (ren_rdL hren ds (by have := hcell e; simpa [cellIdb] using this)).2 k3, k4, k5⟩
    · have := hh i (hlt0 e')
      rw [e'] at this
      obtain ⟨u, xs, k1, k2, k3⟩ := s.log (f i) e sz n this.symm
      exact ⟨u, xs, (hren.lg i (hlt0 e')).trans k1, k2, k3⟩
    · simp only [C0] at hu
      split at hu
      · assumption
      · cases hu
    · obtain ⟨h1, h2⟩ := hblk hi
      obtain ⟨h3, h4⟩ := hblk hj
      exact hinj i j h1 h3 (s.inj _ _ b h2 h4)
    · have hi := (hblk (.inl hb)).1
      rw [hren.bx i hi] at hb
      rw [hren.lg i hi]
      exact s.one _ b hb
    · have := hh i (hlt0 e)
      rw [e] at this
      obtain ⟨k1, k2, k3⟩ := s.keep (f i) b P this.symm
      exact ⟨(hren.bx i (hlt0 e)).trans k1, k2, k3⟩
  rw [hds] at r
  refine (c.2 C0 w args s0 ((ren_rdL hren ds0 hid).2 r)).mono ?_
  rintro e w' ⟨v, C0', d0, h0', he, hQ, fw, s0', r0⟩
  obtain ⟨hlen, hdid, hcid⟩ := hq d0 h0' hQ
  let C' : Cx := ⟨C0'.S, fun id => match idxOf f id h0.length with | some i => C0'.bx i | none => C.bx id, fun id => match idxOf f id h0.length with | some i => C0'.lg i | none => C.lg id⟩
  have idx : ∀ i, i < h0.length → idxOf f (f i) h0.length = some i := fun i hi => by
    cases hx : idxOf f (f i) h0.length with
    | none => exact absurd rfl (idxOf_none hx i hi)
    | some j =>
      obtain ⟨h1, h2⟩ := idxOf_some hx
      rw [hinj j i h1 hi h2]
  have hren' : RenCx f h0.length C0' C' := ⟨fun _ _ => Iff.rfl, fun i hi => by simp only [C', idx i hi], fun i hi => by simp only [C', idx i hi]⟩
  have blk' : ∀ {id b}, C'.blk id b → (∃ i, i < h0.length ∧ f i = id ∧ C0'.blk i b) ∨ ((∀ i, i < h0.length → f i ≠ id) ∧ C.blk id b) := fun {id b} hb => by
    cases hx : idxOf f id h0.length with
    | none =>
      refine .inr ⟨idxOf_none hx, ?_⟩
      rcases hb with hb | ⟨u, hb, hu⟩
      · simp only [C', hx] at hb; exact .inl hb
      · simp only [C', hx] at hb; exact .inr ⟨u, hb, hu⟩
    | some i =>
      obtain ⟨h1, h2⟩ := idxOf_some hx
      refine .inl ⟨i, h1, h2, ?_⟩
      rcases hb with hb | ⟨u, hb, hu⟩
      · simp only [C', hx] at hb; exact .inl hb
      · simp only [C', hx] at hb; exact .inr ⟨u, hb, hu⟩
  -- a block of another one: it stands
  have apart : ∀ {id b}, C.blk id b → (∀ i, i < h0.length → f i ≠ id) → ∀ i, ¬ C0.blk i b := fun {id b} hb hne i hi => by
    obtain ⟨h1, h2⟩ := hblk hi
    exact hne i h1 (s.inj _ _ b h2 hb)
  have stands : ∀ {id b}, C.blk id b → (∀ i, i < h0.length → f i ≠ id) → w'.heap[b]? = w.heap[b]? := fun {id b} hb hne => fw.frame b (s.lt id b hb) (apart hb hne)
  have noS : ∀ {id b}, C.blk id b → (∀ i, i < h0.length → f i ≠ id) → ∀ o, C0'.S b o → C.S b o := fun {id b} hb hne o hs => by
    rcases fw.new b o hs (s.lt id b hb) with h1 | ⟨i, h1⟩
    · exact h1
    · exact absurd h1 (apart hb hne i)
  have ev : Ev C w C' w' := by
    refine ⟨fw.os, fw.tape, fw.output, fw.size, fun b o hs => fw.sub b o hs, fun b o hs => fw.cell b o hs, fun id b hb => ?_, fun id u hu => ?_⟩
    · cases hx : idxOf f id h0.length with
      | none => simp only [C', hx]; exact hb
      | some i =>
        obtain ⟨h1, rfl⟩ := idxOf_some hx
        simp only [C', hx]
        exact fw.bx i b ((hren.bx i h1).trans hb)
    · cases hx : idxOf f id h0.length with
      | none => simp only [C', hx]; exact ⟨u, hu, .inl rfl⟩
      | some i =>
        obtain ⟨h1, rfl⟩ := idxOf_some hx
        simp only [C', hx]
        exact fw.lg i u ((hren.lg i h1).trans hu)
  have fw' : Fw C w C' w' := by
    refine ⟨ev, fun b hb hn => fw.frame b hb fun i hi => hn _ (hblk hi).2, fun id b hk hb => ?_, fun b o hs hb => ?_⟩
    · rcases blk' hk with ⟨i, h1, h2, h3⟩ | ⟨_, h1⟩
      · obtain ⟨i', h4⟩ := fw.own i b h3 hb
        exact ⟨_, (hblk h4).2⟩
      · exact ⟨id, h1⟩
    · rcases fw.new b o hs hb with h1 | ⟨i, h1⟩
      · exact .inl h1
      · exact .inr ⟨_, (hblk h1).2⟩
  have hmlen : (mergeH f h h0').length = h.length := by simp [mergeH]
  have fid : ∀ {i}, i < h0.length → f i < h.length := fun {i} hi => by
    have := hh i hi
    rw [List.getElem?_eq_getElem hi] at this
    exact (List.getElem?_eq_some_iff.1 this.symm).1
  refine ⟨v, C', renD f d0, mergeH f h h0', he, ⟨d0, h0', hQ, rfl, rfl⟩, fw', ⟨s0'.S, fun id t ds e => ?_, fun id e sz n e' => ?_, fun id b hb => ?_, fun id b hb => ?_, fun id u hu => ?_, fun id id' b hb hb' => ?_, fun id b hb => ?_, fun id b P e => ?_⟩, (ren_rd hren' d0 hdid).1 r0⟩
  · rcases mergeH_get e with ⟨i, h1, rfl, c0, h2, h3⟩ | ⟨h1, h2⟩
    · cases c0 with
      | log _ _ _ => cases h3
      | dead => cases h3
      | keep _ _ => cases h3
      | box t0 ds0' =>
        simp only [renC, Cell.box.injEq] at h3
        obtain ⟨rfl, rfl⟩ := h3
        obtain ⟨b, vs, k1, k2, k3, k4, k5⟩ := s0'.box i _ _ h2
        rw [hlen] at h1
        refine ⟨b, vs, (hren'.bx i h1).symm.trans k1, k2, (ren_rdL hren' ds0' ?_).1 k3, k4, k5⟩
        have := List.all_eq_true.1 hcid _ (List.mem_of_getElem? h2)
        simpa [cellIdb] using this
    · rw [hlen] at h1
      obtain ⟨b, vs, k1, k2, k3, k4, k5⟩ := s.box id t ds h2
      have hx : idxOf f id h0.length = none := by
        cases hx : idxOf f id h0.length with
        | none => rfl
        | some i => obtain ⟨j1, j2⟩ := idxOf_some hx; exact absurd j2 (h1 i j1)
      refine ⟨b, vs, by simp only [C', hx]; exact k1, (stands (.inl k1) h1).trans k2, k3.mono ev, k4, fun o hs => k5 o (noS (.inl k1) h1 o hs)⟩
  · rcases mergeH_get e' with ⟨i, h1, rfl, c0, h2, h3⟩ | ⟨h1, h2⟩
    · cases c0 with
      | box _ _ => cases h3
      | dead => cases h3
      | keep _ _ => cases h3
      | log e0 sz0 n0 =>
        simp only [renC, Cell.log.injEq] at h3
        obtain ⟨rfl, rfl, rfl⟩ := h3
        obtain ⟨u, xs, k1, k2, k3⟩ := s0'.log i _ _ _ h2
        rw [hlen] at h1
        exact ⟨u, xs, (hren'.lg i h1).symm.trans k1, k2, k3⟩
    · rw [hlen] at h1
      obtain ⟨u, xs, k1, k2, k3⟩ := s.log id e sz n h2
      have hx : idxOf f id h0.length = none := by
        cases hx : idxOf f id h0.length with
        | none => rfl
        | some i => obtain ⟨j1, j2⟩ := idxOf_some hx; exact absurd j2 (h1 i j1)
      refine ⟨u, xs, by simp only [C', hx]; exact k1, own_block k2 fun b hb => stands (.inr ⟨u, k1, hb⟩) h1, fun b o hu hs => k3 b o hu (noS (.inr ⟨u, k1, hu⟩) h1 o hs)⟩
  · rcases blk' hb with ⟨i, h1, h2, h3⟩ | ⟨_, h1⟩
    · exact s0'.lt i b h3
    · exact Nat.lt_of_lt_of_le (s.lt id b h1) fw.size
  · rw [hmlen]
    rcases blk' (.inl hb) with ⟨i, h1, rfl, h3⟩ | ⟨hne, h1⟩
    · exact fid h1
    · have hx : idxOf f id h0.length = none := by
        cases hx : idxOf f id h0.length with
        | none => rfl
        | some i => obtain ⟨j1, j2⟩ := idxOf_some hx; exact absurd j2 (hne i j1)
      simp only [C', hx] at hb
      exact s.idb id b hb
  · rw [hmlen]
    cases hx : idxOf f id h0.length with
    | none => simp only [C', hx] at hu; exact s.idl id u hu
    | some i => obtain ⟨h1, rfl⟩ := idxOf_some hx; exact fid h1
  · rcases blk' hb with ⟨i, h1, rfl, h3⟩ | ⟨hne, h1⟩
    · rcases blk' hb' with ⟨i', h1', rfl, h3'⟩ | ⟨hne', h1'⟩
      · rw [s0'.inj i i' b h3 h3']
      · obtain ⟨j, hj⟩ := fw.own i b h3 (s.lt _ b h1')
        exact absurd hj (apart h1' hne' j)
    · rcases blk' hb' with ⟨i', h1', rfl, h3'⟩ | ⟨hne', h1'⟩
      · obtain ⟨j, hj⟩ := fw.own i' b h3' (s.lt _ b h1)
        exact absurd hj (apart h1 hne j)
      · exact s.inj _ _ b h1 h1'
  · cases hx : idxOf f id h0.length with
    | none => simp only [C', hx] at hb ⊢; exact s.one id b hb
    | some i => simp only [C', hx] at hb ⊢; exact s0'.one i b hb
  · rcases mergeH_get e with ⟨i, h1, rfl, c0, h2, h3⟩ | ⟨h1, h2⟩
    · cases c0 with
      | log _ _ _ => cases h3
      | dead => cases h3
      | box _ _ => cases h3
      | keep b0 P0 =>
        simp only [renC, Cell.keep.injEq] at h3
        obtain ⟨rfl, rfl⟩ := h3
        obtain ⟨k1, k2, k3⟩ := s0'.keep i _ _ h2
        rw [hlen] at h1
        exact ⟨(hren'.bx i h1).symm.trans k1, k2, k3⟩
    · rw [hlen] at h1
      obtain ⟨k1, ⟨x, k2, k3⟩, k4⟩ := s.keep id b P h2
      have hx : idxOf f id h0.length = none := by
        cases hx : idxOf f id h0.length with
        | none => rfl
        | some i => obtain ⟨j1, j2⟩ := idxOf_some hx; exact absurd j2 (h1 i j1)
      exact ⟨by simp only [C', hx]; exact k1, ⟨x, (stands (.inl k1) h1).trans k2, k3⟩, fun o hs => k4 o (noS (.inl k1) h1 o hs)⟩
end
set_option linter.defProp false
/-! ### Short names for the steps that need no thought (tools/macros.py) -/
theorem zS {l : List Oper} {n m : Nat} {hs : List HD} {K : Unit → Prop} (h : (dstsB l.toArray n m && consB l.toArray n (consOf l n hs)) = true) (k : K ()) : StatK l n m hs K := StatK.go (Bool.and_eq_true .. ▸ h).1 (Bool.and_eq_true .. ▸ h).2 k
def zD {T : TP} {l : List Oper} {ts : List D} {h : H} {K : List D → H → Prop} := @DrawK.go T l ts h K 0
def zE {T : TP} {l : List Oper} {ts : List D} {h : H} {K : List D → H → Prop} := @DrawK.go T l ts h K 1
def zF {T : TP} {l : List Oper} {ts : List D} {h : H} {K : List D → H → Prop} := @DrawK.go T l ts h K 2
def zG {T : TP} {l : List Oper} {ts : List D} {h : H} {K : List D → H → Prop} := @DrawK.go T l ts h K 3
theorem zL {T : TP} {l : List Oper} {ts : List D} {h : H} {K : List D → H → Prop} (hs : (statB1 l (l.length - 0) && dstsB l.toArray (l.length - 0) ts.length) = true) (k : wlrun T l (l.length - 0) ts (l.length - 0) [] [h] h fun vs _ h' => wlist T l.toArray (l.drop (l.length - 0)) (lputs l vs (l.length - 0) ts) h' K) : LineK T l ts h K := LineK.go 0 (Bool.and_eq_true .. ▸ hs).1 (Bool.and_eq_true .. ▸ hs).2 k
theorem zM {T : TP} {l : List Oper} {ts : List D} {h : H} {K : List D → H → Prop} (hs : (statB1 l (l.length - 1) && dstsB l.toArray (l.length - 1) ts.length) = true) (k : wlrun T l (l.length - 1) ts (l.length - 1) [] [h] h fun vs _ h' => wlist T l.toArray (l.drop (l.length - 1)) (lputs l vs (l.length - 1) ts) h' K) : LineK T l ts h K := LineK.go 1 (Bool.and_eq_true .. ▸ hs).1 (Bool.and_eq_true .. ▸ hs).2 k
def zN {ds : List D} {K : Int → Prop} := @LenK.intro ds K
def zO {n : Nat} {K : Int → Prop} := @LenNK.intro n K
def zR {T : TP} {ops : Array Oper} {ts : List D} {h : H} {K : List D → H → Prop} := @RegK.go T ops ts h K
@[reducible] def cT : BinOp → Int → Int → Prop
  | .lss, a, b => a < b
  | .leq, a, b => a ≤ b
  | .gtr, a, b => b < a
  | .geq, a, b => b ≤ a
  | .eql, a, b => a = b
  | .neq, a, b => a ≠ b
  | _, _, _ => False
@[reducible] def cF : BinOp → Int → Int → Prop
  | .lss, a, b => b ≤ a
  | .leq, a, b => b < a
  | .gtr, a, b => a ≤ b
  | .geq, a, b => a < b
  | .eql, a, b => a ≠ b
  | .neq, a, b => a = b
  | _, _, _ => False
theorem zT {T : TP} {o : BinOp} {t : TypeId} {x y : Operand} {a b : Int} {K : D → Prop} (h : cT o a b) (k : K (.raw (.bool true))) : BinK T o t x y (.int .i64 a) (.int .i64 b) K := by
  cases o <;> first | exact h.elim | exact BinK.lssT h k | exact BinK.leqT h k | exact BinK.gtrT h k | exact BinK.geqT h k | exact BinK.eqlT h k | exact BinK.neqT h k
theorem zU {T : TP} {o : BinOp} {t : TypeId} {x y : Operand} {a b : Int} {K : D → Prop} (h : cF o a b) (k : K (.raw (.bool false))) : BinK T o t x y (.int .i64 a) (.int .i64 b) K := by
  cases o <;> first | exact h.elim | exact BinK.lssF h k | exact BinK.leqF h k | exact BinK.gtrF h k | exact BinK.geqF h k | exact BinK.eqlF h k | exact BinK.neqF h k
def zP {T : TP} {t : TypeId} {x y : Operand} {a b : Int} {K : D → Prop} := @BinK.add T t x y a b K
def zQ {T : TP} {t : TypeId} {x y : Operand} {a b : Int} {K : D → Prop} := @BinK.sub T t x y a b K
def yA {T : TP} {t : TypeId} {x y : Operand} {a b : Int} {K : D → Prop} := @BinK.eqlT T t x y a b K
def yB {T : TP} {t : TypeId} {x y : Operand} {a b : Int} {K : D → Prop} := @BinK.eqlF T t x y a b K
def yC {T : TP} {t : TypeId} {x y : Operand} {a b : Int} {K : D → Prop} := @BinK.neqT T t x y a b K
def yD {T : TP} {t : TypeId} {x y : Operand} {a b : Int} {K : D → Prop} := @BinK.neqF T t x y a b K
def yE {T : TP} {t : TypeId} {x y : Operand} {a b : Int} {K : D → Prop} := @BinK.lssT T t x y a b K
def yF {T : TP} {t : TypeId} {x y : Operand} {a b : Int} {K : D → Prop} := @BinK.lssF T t x y a b K
def yG {T : TP} {t : TypeId} {x y : Operand} {a b : Int} {K : D → Prop} := @BinK.leqT T t x y a b K
def yH {T : TP} {t : TypeId} {x y : Operand} {a b : Int} {K : D → Prop} := @BinK.leqF T t x y a b K
def yI {T : TP} {t : TypeId} {x y : Operand} {a b : Int} {K : D → Prop} := @BinK.gtrT T t x y a b K
def yJ {T : TP} {t : TypeId} {x y : Operand} {a b : Int} {K : D → Prop} := @BinK.gtrF T t x y a b K
def yK {T : TP} {t : TypeId} {x y : Operand} {a b : Int} {K : D → Prop} := @BinK.geqT T t x y a b K
def yL {T : TP} {t : TypeId} {x y : Operand} {a b : Int} {K : D → Prop} := @BinK.geqF T t x y a b K
end Go.Proofs.Ytbfmaicoefefaaa.Pv

/- The evaluator over data (see NOTES, 'Pv'): part Pv15. -/
import Derived.Test.YtclhomkgphdagaaPv16
namespace Go.Proofs.Ytclhomkgphdagaa.Pv
open Go Go.RowKit
section
variable {P : Program}
theorem bare_sim {S : Nat → Nat → Prop} {w : World} (hS : ∀ b o, S b o → b < w.heap.size) : Sim (bare S) [] w :=
  ⟨hS, fun id t ds e => by simp at e, fun id e sz n e' => by simp at e', fun id b hb => by rcases hb with hb | ⟨u, hu, _⟩ <;> simp [bare] at *, fun id b hb => by simp [bare] at hb, fun id u hu => by simp [bare] at hu, fun id id' b hb => by rcases hb with hb | ⟨u, hu, _⟩ <;> simp [bare] at *, fun id b hb => by simp [bare] at hb⟩
theorem bare_blk {S : Nat → Nat → Prop} {id b : Nat} : ¬ (bare S).blk id b := fun hb => by rcases hb with hb | ⟨u, hu, _⟩ <;> simp [bare] at *
theorem afun_yd {E : Env} (hE : EnvOk P E) {n : Nat} {k : FuncId} {ds : List D} {h' : H} {d d' : D} (e : afun P E n k ds [] = some (d, h')) (hd : pureD d = some d') : Yd P k ds d' := by
  intro S w args hS r
  refine ((afun_sound hE e).2 (bare S) w args (bare_sim hS) r).mono ?_
  rintro e' w' ⟨v, C', h1, f, s', h2⟩
  refine ⟨v, C'.S, h1, ⟨f.os, f.tape, f.output, f.size, fun b hb => f.frame b hb fun id => bare_blk⟩, f.sub, fun b o hs => ⟨s'.S b o hs, fun hb => ?_⟩, pureD_rd (C := C') (C' := bare C'.S) (fun _ _ h => h) d hd h2⟩
  rcases f.new b o hs hb with h3 | ⟨id, h3⟩
  · exact h3
  · exact absurd h3 bare_blk
structure Lay where
  penv : FuncId → List D → Option D
  call : FuncId → List D → H → Option (D × H)
def bothDraw (P : Program) (call : FuncId → List D → H → Option (D × H)) (penv : FuncId → List D → Option D) (l : List Oper) (ts : List D) (h : H) : Option (List D × H) :=
  match adraw P call penv l ts h with
  | some r => some r
  | none => aline P call l ts h
theorem bothDraw_sound {call : FuncId → List D → H → Option (D × H)} {penv : FuncId → List D → Option D} (hm : P.follows .mixedOrders = true) (hcall : CallOk P call) (hp : PureOk P penv) :
    ∀ l ts h ts' h', bothDraw P call penv l ts h = some (ts', h') → ∀ (id : Nat) (C : Cx) (w : World) (a : Act) (Q : Exit → Act → World → Prop), Sim C h w → TA C w ts a →
    (∀ a' C' w', Fw C w C' w' → Sim C' h' w' → TA C' w' ts' a' → Q .normal a' w') → (Code.region id l.toArray true).wp P Q a w := by
  intro l ts h ts' h' e
  unfold bothDraw at e
  split at e
  · rename_i r hr
    cases e
    exact adraw_sound hm hcall hp l ts h _ _ hr
  · exact aline_sound hm hcall l ts h ts' h' e
def Lay.env (P : Program) (L : Lay) : Env := ⟨L.call, bothDraw P L.call L.penv⟩
def callOf (P : Program) (E : Env) (n : Nat) (penv : FuncId → List D → Option D) : FuncId → List D → H → Option (D × H) := fun k ds h => match pcall penv k ds with
  | some d => some (d, h)
  | none => afun P E n k ds h
def penvOf (P : Program) (E : Env) (n : Nat) (base : FuncId → List D → Option D) : FuncId → List D → Option D := fun k ds => match base k ds with
  | some d => some d
  | none => match afun P E n k ds [] with
    | some (d, _) => pureD d
    | none => none
def lay (P : Program) (base : FuncId → List D → Option D) (m : Nat) : Nat → Lay
  | 0 => ⟨base, fun k ds h => match pcall base k ds with | some d => some (d, h) | none => none⟩
  | n + 1 =>
    let E := (lay P base m n).env P
    ⟨penvOf P E m base, callOf P E m (penvOf P E m base)⟩
theorem pcall_ok {penv : FuncId → List D → Option D} (hp : PureOk P penv) {k : FuncId} {ds : List D} {d : D} (e : pcall penv k ds = some d) : Callable P k ∧ ∀ (C : Cx) (h : H) (w : World) (args : List Value), Sim C h w → RdL C w ds args → Ret P C w k args d h := by
  unfold pcall at e
  split at e
  · rename_i es hes
    split at e
    · rename_i d0 hd
      refine ⟨hp.can k es d0 hd, fun C h w args s r => ?_⟩
      refine (hp.ok k es d0 hd C.S w args s.S (pureL_rd (C := C) (C' := bare C.S) (fun _ _ h => h) ds hes r)).mono ?_
      rintro e' w' ⟨v, S', h1, h2, h3, h4, h5⟩
      obtain ⟨f, s'⟩ := Fw.pure s h2 h4
      exact ⟨v, _, h1, f, s', pureD_rd (C := bare S') (C' := { C with S := fun b o => C.S b o ∨ S' b o }) (fun _ _ h => Or.inr h) d0 e h5⟩
    · cases e
  · cases e
theorem penvOf_ok {E : Env} (hE : EnvOk P E) {n : Nat} {base : FuncId → List D → Option D} (hb : PureOk P base) : PureOk P (penvOf P E n base) := by
  refine ⟨fun k ds d e => ?_, fun k ds d e => ?_⟩
  · unfold penvOf at e
    split at e
    · rename_i d0 h0
      exact hb.can k ds d0 h0
    · split at e
      · rename_i d0 h' h0
        exact (afun_sound hE h0).1
      · cases e
  · unfold penvOf at e
    split at e
    · rename_i d0 h0
      cases e
      exact hb.ok k ds _ h0
    · split at e
      · rename_i d0 h' h0
        exact afun_yd hE h0 e
      · cases e
theorem lay_ok (hm : P.follows .mixedOrders = true) {base : FuncId → List D → Option D} (hb : PureOk P base) (m : Nat) : ∀ n, PureOk P (lay P base m n).penv ∧ CallOk P (lay P base m n).call
  | 0 => by
    refine ⟨hb, ⟨fun k ds h d h' e => ?_, fun k ds h d h' e C w args s r => ?_⟩⟩
    · simp only [lay] at e
      split at e
      · rename_i d0 h0
        exact (pcall_ok hb h0).1
      · cases e
    · simp only [lay] at e
      split at e
      · rename_i d0 h0
        cases e
        exact (pcall_ok hb h0).2 C _ w args s r
      · cases e
  | n + 1 => by
    obtain ⟨h1, h2⟩ := lay_ok hm hb m n
    have hE : EnvOk P ((lay P base m n).env P) := ⟨h2, fun l ts h ts' h' e => bothDraw_sound hm h2 h1 l ts h ts' h' e⟩
    have hp := penvOf_ok hE (n := m) hb
    refine ⟨hp, ⟨fun k ds h d h' e => ?_, fun k ds h d h' e C w args s r => ?_⟩⟩
    · simp only [lay, callOf] at e
      split at e
      · rename_i d0 h0
        exact (pcall_ok hp h0).1
      · exact (afun_sound hE e).1
    · simp only [lay, callOf] at e
      split at e
      · rename_i d0 h0
        cases e
        exact (pcall_ok hp h0).2 C _ w args s r
      · exact (afun_sound hE e).2 C w args s r
theorem env_ok (hm : P.follows .mixedOrders = true) {base : FuncId → List D → Option D} (hb : PureOk P base) (m n : Nat) : EnvOk P ((lay P base m n).env P) := by
  obtain ⟨h1, h2⟩ := lay_ok hm hb m n
  exact ⟨h2, fun l ts h ts' h' e => bothDraw_sound hm h2 h1 l ts h ts' h' e⟩
/-! ### A base out of contracts -/
def noBase : FuncId → List D → Option D := fun _ _ => none
theorem noBase_ok : PureOk P noBase := ⟨fun _ _ _ e => (by cases e), fun _ _ _ e => (by cases e)⟩
open Classical in
noncomputable def famOf {α : Type} (key : α → List D) (val : α → D) (ds : List D) : Option D := if h : ∃ x, key x = ds then some (val h.choose) else none
theorem famOf_eq {α : Type} {key : α → List D} {val : α → D} (hinj : ∀ x y, key x = key y → val x = val y) (x : α) : famOf key val (key x) = some (val x) := by
  unfold famOf
  have h : ∃ y, key y = key x := ⟨x, rfl⟩
  rw [dif_pos h]
  exact congrArg some (hinj _ _ h.choose_spec)
theorem famOf_some {α : Type} {key : α → List D} {val : α → D} {ds : List D} {d : D} (e : famOf key val ds = some d) : ∃ x, key x = ds ∧ val x = d := by
  unfold famOf at e
  split at e
  · rename_i h
    cases e
    exact ⟨h.choose, h.choose_spec, rfl⟩
  · cases e
/-- One function's contract, in front of a base. -/
noncomputable def withFam {α : Type} (f : FuncId) (key : α → List D) (val : α → D) (base : FuncId → List D → Option D) : FuncId → List D → Option D := fun k ds => if k = f then famOf key val ds else base k ds
theorem withFam_ok {α : Type} {f : FuncId} {key : α → List D} {val : α → D} {base : FuncId → List D → Option D} (hc : Callable P f) (hy : ∀ x, Yd P f (key x) (val x)) (hb : PureOk P base) : PureOk P (withFam f key val base) := by
  refine ⟨fun k ds d e => ?_, fun k ds d e => ?_⟩
  · unfold withFam at e
    split at e
    · rename_i h; subst h; exact hc
    · exact hb.can k ds d e
  · unfold withFam at e
    split at e
    · rename_i h
      subst h
      obtain ⟨x, rfl, rfl⟩ := famOf_some e
      exact hy x
    · exact hb.ok k ds d e
end
end Go.Proofs.Ytclhomkgphdagaa.Pv

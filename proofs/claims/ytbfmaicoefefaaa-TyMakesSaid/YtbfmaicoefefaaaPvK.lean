/- The evaluator over data (see NOTES, 'Pv'): data, worlds, operations, code. -/
import Derived.Below
import Derived.Handy
import Derived.Deep.MidRow
import Derived.Deep.AppendSrc
import Derived.Laws.CopyRow
import Derived.Laws.AppendOwn
import Derived.WalkKit
import Derived.Deep.Upon
import Derived.Laws.BytesArg
import Derived.IntWalk
import Derived.LoopN
import Derived.Tactics
set_option linter.unusedSimpArgs false
set_option linter.unusedVariables false
/-! ## Part 1 -/
namespace Go.Proofs.Ytbfmaicoefefaaa.Pv
open Go Go.RowKit
inductive D where
  | any
  | raw (v : Value)
  | agg (ds : List D)
  | tup (ds : List D)
  | sl (tag : Option Nat) (sz : Nat) (ds : List D)
  | bx (id off : Nat)
  | ms (id off n : Nat)
  | mp (id sz j fld : Nat)
  | sln (n : Nat)
  | pe (d : D) (off : Nat)
  | fn (f : Fn) (first cap : List D)
  | ifc (t : TypeId) (d : D)
  deriving Inhabited
structure Cx where
  S : Nat → Nat → Prop
  bx : Nat → Option Nat
  lg : Nat → Option Value
def lenV : Value → Nat | .slice _ n _ => n | _ => 0
mutual
def Rd (C : Cx) (w : World) : D → Value → Prop
  | .any, _ => True
  | .raw u, v => v = u
  | .agg ds, v => ∃ vs : List Value, v = .agg vs.toArray ∧ RdL C w ds vs
  | .tup ds, v => ∃ vs : List Value, v = .tuple vs.toArray ∧ RdL C w ds vs
  | .sl tag sz ds, v =>
    (∃ a cap, v = .slice a ds.length cap ∧ ds.length ≤ cap ∧ cap ≤ maxLen) ∧
    (0 < ds.length → ∃ b off cap, v = .slice (some ⟨b, off, none⟩) ds.length cap ∧ (∀ i, i < ds.length * sz → C.S b (off + i)) ∧ RdE C w sz ds (fun i => w.cell? ⟨b, off + i, none⟩)) ∧
    (∀ id, tag = some id → ∃ u, C.lg id = some u ∧ ds.length ≤ lenV u ∧ (ds.length = lenV u → v = u))
  | .bx id off, v => ∃ b, C.bx id = some b ∧ v = .pointer (some ⟨b, off, none⟩)
  | .ms id off n, v => ∃ b cap, C.bx id = some b ∧ v = .slice (some ⟨b, off, none⟩) n cap ∧ n ≤ cap ∧ cap ≤ maxLen
  | .mp id sz j fld, v => ∃ b, C.bx id = some b ∧ v = .pointer (some ⟨b, fld + j * sz, none⟩)
  | .pe d off, v => ∃ b o u, v = .pointer (some ⟨b, o + off, none⟩) ∧ Rd C w d u ∧ ∀ i (h : i < u.cells.size), C.S b (o + i) ∧ w.cell? ⟨b, o + i, none⟩ = some u.cells[i]
  | .sln n, v => ∃ a cap, v = .slice a n cap
  | .fn f first cap, v => ∃ vs us : List Value, v = .func f vs.toArray us.toArray ∧ RdL C w first vs ∧ RdL C w cap us
  | .ifc t d, v => ∃ u, v = .iface t u ∧ Rd C w d u
def RdL (C : Cx) (w : World) : List D → List Value → Prop
  | [], vs => vs = []
  | d :: ds, vs => ∃ v rest, vs = v :: rest ∧ Rd C w d v ∧ RdL C w ds rest
def RdE (C : Cx) (w : World) (sz : Nat) : List D → (Nat → Option Value) → Prop
  | [], _ => True
  | d :: ds, f => (∃ u, Rd C w d u ∧ u.cells.size = sz ∧ (∀ c ∈ u.cells.toList, c.oneCell' = true) ∧ ∀ i (h : i < u.cells.size), f i = some u.cells[i]) ∧ RdE C w sz ds (fun i => f (sz + i))
end
/-- The world has moved on, and the reading with it. -/
structure Ev (C : Cx) (w : World) (C' : Cx) (w' : World) : Prop where
  os : w'.os = w.os
  tape : w'.tape = w.tape
  output : w'.output = w.output
  size : w.heap.size ≤ w'.heap.size
  sub : ∀ b o, C.S b o → C'.S b o
  cell : ∀ b o, C.S b o → w'.cell? ⟨b, o, none⟩ = w.cell? ⟨b, o, none⟩
  bx : ∀ id b, C.bx id = some b → C'.bx id = some b
  lg : ∀ id u, C.lg id = some u → ∃ u', C'.lg id = some u' ∧ (u' = u ∨ lenV u < lenV u')
mutual
theorem Rd.mono {C C' : Cx} {w w' : World} (h : Ev C w C' w') : ∀ (d : D) (v : Value), Rd C w d v → Rd C' w' d v
  | .any, _, _ => trivial
  | .raw _, _, e => e
  | .agg ds, v, ⟨vs, e, r⟩ => ⟨vs, e, RdL.mono h ds vs r⟩
  | .tup ds, v, ⟨vs, e, r⟩ => ⟨vs, e, RdL.mono h ds vs r⟩
  | .sl tag sz ds, v, ⟨h1, h2, h3⟩ => by
    refine ⟨h1, fun hp => ?_, fun id e => ?_⟩
    · obtain ⟨b, off, cap, e, hs, hr⟩ := h2 hp
      refine ⟨b, off, cap, e, fun i hi => h.sub _ _ (hs i hi), ?_⟩
      exact RdE.mono h sz ds _ _ hr (fun i hi => h.cell _ _ (hs i hi))
    · obtain ⟨u, hu, hle, heq⟩ := h3 id e
      obtain ⟨u', hu', hor⟩ := h.lg id u hu
      refine ⟨u', hu', ?_, ?_⟩
      · rcases hor with rfl | hlt
        · exact hle
        · omega
      · intro e'
        rcases hor with rfl | hlt
        · exact heq e'
        · omega
  | .bx id off, v, ⟨b, hb, e⟩ => ⟨b, h.bx id b hb, e⟩
  | .ms id off n, v, ⟨b, cap, hb, e⟩ => ⟨b, cap, h.bx id b hb, e⟩
  | .mp id sz j fld, v, ⟨b, hb, e⟩ => ⟨b, h.bx id b hb, e⟩
  | .pe d off, v, ⟨b, o, u, e, r, hc⟩ => ⟨b, o, u, e, Rd.mono h d u r, fun i hi => ⟨h.sub _ _ (hc i hi).1, (h.cell _ _ (hc i hi).1).trans (hc i hi).2⟩⟩
  | .sln n, v, e => e
  | .fn f first cap, v, ⟨vs, us, e, r1, r2⟩ => ⟨vs, us, e, RdL.mono h first vs r1, RdL.mono h cap us r2⟩
  | .ifc t d, v, ⟨u, e, r⟩ => ⟨u, e, Rd.mono h d u r⟩
theorem RdL.mono {C C' : Cx} {w w' : World} (h : Ev C w C' w') : ∀ (ds : List D) (vs : List Value), RdL C w ds vs → RdL C' w' ds vs
  | [], _, e => e
  | d :: ds, _, ⟨v, rest, e, r1, r2⟩ => ⟨v, rest, e, Rd.mono h d v r1, RdL.mono h ds rest r2⟩
theorem RdE.mono {C C' : Cx} {w w' : World} (h : Ev C w C' w') (sz : Nat) : ∀ (ds : List D) (f g : Nat → Option Value), RdE C w sz ds f → (∀ i, i < ds.length * sz → g i = f i) → RdE C' w' sz ds g
  | [], _, _, _, _ => trivial
  | d :: ds, f, g, ⟨⟨u, r, e, ho, hf⟩, r2⟩, hg => by
    refine ⟨⟨u, Rd.mono h d u r, e, ho, fun i hi => ?_⟩, ?_⟩
    · rw [hg i (by rw [List.length_cons, Nat.add_mul, Nat.one_mul]; omega)]
      exact hf i hi
    · exact RdE.mono h sz ds _ _ r2 fun i hi => hg (sz + i) (by rw [List.length_cons, Nat.add_mul, Nat.one_mul]; omega)
end
end Go.Proofs.Ytbfmaicoefefaaa.Pv
/-! ## Part 2 -/
namespace Go.Proofs.Ytbfmaicoefefaaa.Pv
open Go Go.RowKit
inductive Cell where
  | box (t : TypeId) (ds : List D)
  | log (e : TypeId) (sz n : Nat)
  | dead
  | keep (b : Nat) (P : Obj → Prop)
  deriving Inhabited
abbrev H := List Cell
def Cx.blk (C : Cx) (id b : Nat) : Prop := C.bx id = some b ∨ ∃ u, C.lg id = some u ∧ u.ownBlock = some b
/-- How the world has moved. -/
structure Fw (C : Cx) (w : World) (C' : Cx) (w' : World) : Prop extends Ev C w C' w' where
  frame : ∀ b, b < w.heap.size → (∀ id, ¬ C.blk id b) → w'.heap[b]? = w.heap[b]?
  own : ∀ id b, C'.blk id b → b < w.heap.size → ∃ id', C.blk id' b
  new : ∀ b o, C'.S b o → b < w.heap.size → C.S b o ∨ ∃ id, C.blk id b
theorem Fw.refl (C : Cx) (w : World) : Fw C w C w :=
  ⟨⟨rfl, rfl, rfl, Nat.le_refl _, fun _ _ h => h, fun _ _ _ => rfl, fun _ _ h => h, fun _ u h => ⟨u, h, .inl rfl⟩⟩, fun _ _ _ => rfl, fun id _ h _ => ⟨id, h⟩, fun _ _ h _ => .inl h⟩
theorem Fw.trans {C C1 C2 : Cx} {w w1 w2 : World} (h : Fw C w C1 w1) (k : Fw C1 w1 C2 w2) : Fw C w C2 w2 := by
  refine ⟨⟨k.os.trans h.os, k.tape.trans h.tape, k.output.trans h.output, Nat.le_trans h.size k.size, fun b o hs => k.sub b o (h.sub b o hs), fun b o hs => (k.cell b o (h.sub b o hs)).trans (h.cell b o hs), fun id b hb => k.bx id b (h.bx id b hb), fun id u hu => ?_⟩, fun b hb hn => ?_, fun id b hk hb => ?_, fun b o hs hb => ?_⟩
  · obtain ⟨u1, h1, h2⟩ := h.lg id u hu
    obtain ⟨u2, h3, h4⟩ := k.lg id u1 h1
    refine ⟨u2, h3, ?_⟩
    rcases h2 with rfl | h2
    · exact h4
    · rcases h4 with rfl | h4
      · exact .inr h2
      · exact .inr (by omega)
  · have hn1 : ∀ id, ¬ C1.blk id b := fun id hk => by
      obtain ⟨id', h'⟩ := h.own id b hk hb
      exact hn id' h'
    exact (k.frame b (Nat.lt_of_lt_of_le hb h.size) hn1).trans (h.frame b hb hn)
  · obtain ⟨id1, h1⟩ := k.own id b hk (Nat.lt_of_lt_of_le hb h.size)
    exact h.own id1 b h1 hb
  · rcases k.new b o hs (Nat.lt_of_lt_of_le hb h.size) with h1 | ⟨id, h1⟩
    · exact h.new b o h1 hb
    · exact .inr (h.own id b h1 hb)
/-- Cells of the world that every run may lean on (package-level tables, laid by their initialisers): block, place, what stands there. -/
def ghost : List (Nat × Nat × Option Value) := []
/-- The cells that are read lie in the world; and what is leant on stands. -/
structure Okay (S : Nat → Nat → Prop) (w : World) : Prop where
  lt : ∀ b o, S b o → b < w.heap.size
  pin : ∀ x, x ∈ ghost → S x.1 x.2.1 ∧ w.cell? ⟨x.1, x.2.1, none⟩ = x.2.2
instance {S : Nat → Nat → Prop} {w : World} : CoeFun (Okay S w) fun _ => ∀ b o, S b o → b < w.heap.size := ⟨Okay.lt⟩
theorem Okay.mono {C C' : Cx} {w w' : World} (h : Okay C.S w) (f : Ev C w C' w') (lt : ∀ b o, C'.S b o → b < w'.heap.size) : Okay C'.S w' :=
  ⟨lt, fun x hx => ⟨f.sub _ _ (h.pin x hx).1, (f.cell _ _ (h.pin x hx).1).trans (h.pin x hx).2⟩⟩
/-- Block b is the cell's own, and what it is, P tells. -/
structure Kept (C : Cx) (w : World) (id b : Nat) (P : Obj → Prop) : Prop where
  bx : C.bx id = some b
  ob : ∃ o, w.heap[b]? = some o ∧ P o
  ns : ∀ o, ¬ C.S b o
/-- The abstract store is what the world holds. -/
structure Sim (C : Cx) (h : H) (w : World) : Prop where
  S : Okay C.S w
  box : ∀ id t ds, h[id]? = some (.box t ds) → ∃ (b : Nat) (vs : Array Value), C.bx id = some b ∧ w.heap[b]? = some (.cells vs t (0, 0)) ∧ RdL C w ds vs.toList ∧ (∀ u ∈ vs.toList, u.oneCell' = true) ∧ ∀ o, ¬ C.S b o
  log : ∀ id e sz n, h[id]? = some (.log e sz n) → ∃ u xs, C.lg id = some u ∧ w.ownsRow 0 e sz u n xs ∧ (∀ b o, u.ownBlock = some b → C.S b o → o < n * sz)
  lt : ∀ id b, C.blk id b → b < w.heap.size
  idb : ∀ id b, C.bx id = some b → id < h.length
  idl : ∀ id u, C.lg id = some u → id < h.length
  inj : ∀ id id' b, C.blk id b → C.blk id' b → id = id'
  one : ∀ id b, C.bx id = some b → C.lg id = none
  keep : ∀ id b P, h[id]? = some (.keep b P) → Kept C w id b P
theorem ids_old {h : H} {x : Cell} {id : Nat} {y : Cell} (e : (h ++ [x])[id]? = some y) : (id < h.length ∧ h[id]? = some y) ∨ (id = h.length ∧ x = y) := by
  by_cases hid : id < h.length
  · rw [List.getElem?_append_left hid] at e
    exact .inl ⟨hid, e⟩
  · have hid' : id = h.length := by
      have := (List.getElem?_eq_some_iff.1 e).1
      simp at this
      omega
    subst hid'
    simp at e
    exact .inr ⟨rfl, e⟩
theorem set_old {h : H} {i id : Nat} {x y : Cell} (e : (h.set i x)[id]? = some y) (hne : x ≠ y) : id ≠ i ∧ h[id]? = some y := by
  by_cases hi : id = i
  · subst hi
    rw [List.getElem?_set] at e
    simp only [if_true] at e
    split at e
    · cases e; exact absurd rfl hne
    · cases e
  · rw [List.getElem?_set_ne (fun e => hi e.symm)] at e
    exact ⟨hi, e⟩
/-! ### Lists of readings -/
section lists
variable {C : Cx} {w : World}
theorem RdL.len : ∀ {ds : List D} {vs : List Value}, RdL C w ds vs → ds.length = vs.length
  | [], _, h => by cases h; rfl
  | d :: ds, _, ⟨v, rest, e, _, r⟩ => by subst e; simp [r.len]
theorem RdL.get : ∀ {ds : List D} {vs : List Value}, RdL C w ds vs → ∀ {i : Nat} {d : D}, ds[i]? = some d → ∃ v, vs[i]? = some v ∧ Rd C w d v
  | [], _, _, _, _, h => by simp at h
  | d :: ds, _, ⟨v, rest, e, r1, r2⟩, 0, d', h => by
    subst e
    simp at h
    subst h
    exact ⟨v, rfl, r1⟩
  | d :: ds, _, ⟨v, rest, e, r1, r2⟩, i + 1, d', h => by
    subst e
    simp at h ⊢
    exact r2.get h
theorem RdL.take : ∀ {ds : List D} {vs : List Value}, RdL C w ds vs → ∀ n, RdL C w (ds.take n) (vs.take n)
  | [], _, h, n => by cases h; simp [RdL]
  | d :: ds, _, ⟨v, rest, e, r1, r2⟩, 0 => by subst e; simp [RdL]
  | d :: ds, _, ⟨v, rest, e, r1, r2⟩, n + 1 => by subst e; exact ⟨v, _, rfl, r1, r2.take n⟩
theorem RdL.drop : ∀ {ds : List D} {vs : List Value}, RdL C w ds vs → ∀ n, RdL C w (ds.drop n) (vs.drop n)
  | [], _, h, n => by cases h; simp [RdL]
  | d :: ds, _, ⟨v, rest, e, r1, r2⟩, 0 => by subst e; exact ⟨v, rest, rfl, r1, r2⟩
  | d :: ds, _, ⟨v, rest, e, r1, r2⟩, n + 1 => by subst e; exact r2.drop n
theorem RdL.app : ∀ {ds es : List D} {vs us : List Value}, RdL C w ds vs → RdL C w es us → RdL C w (ds ++ es) (vs ++ us)
  | [], _, _, _, h, k => by cases h; exact k
  | d :: ds, _, _, _, ⟨v, rest, e, r1, r2⟩, k => by subst e; exact ⟨v, _, rfl, r1, r2.app k⟩
theorem RdL.raws (C : Cx) (w : World) : ∀ vs : List Value, RdL C w (vs.map D.raw) vs
  | [] => rfl
  | v :: vs => ⟨v, vs, rfl, rfl, RdL.raws C w vs⟩
theorem RdL.set {d : D} {v : Value} (h : Rd C w d v) : ∀ {ds : List D} {vs : List Value}, RdL C w ds vs → ∀ i, RdL C w (ds.set i d) (vs.set i v)
  | [], _, k, i => by cases k; simp [RdL]
  | _ :: ds, _, ⟨u, rest, e, r1, r2⟩, 0 => by subst e; exact ⟨v, rest, rfl, h, r2⟩
  | _ :: ds, _, ⟨u, rest, e, r1, r2⟩, i + 1 => by subst e; exact ⟨u, _, rfl, r1, RdL.set h r2 i⟩
end lists
def splice {α : Type} (l : List α) (off : Nat) (es : List α) : List α := l.take off ++ es ++ l.drop (off + es.length)
theorem RdL.splice {C : Cx} {w : World} {ds es : List D} {vs us : List Value} (h : RdL C w ds vs) (k : RdL C w es us) (off : Nat) : RdL C w (Pv.splice ds off es) (Pv.splice vs off us) := by
  unfold Pv.splice
  rw [k.len]
  exact ((h.take off).app k).app (h.drop _)
/-! ### Leaves -/
def cellsD : D → Option (List D)
  | .any => none
  | .raw v => some (v.cells.toList.map D.raw)
  | .agg ds => some ds
  | d => some [d]
def leafD : D → Bool
  | .any | .agg _ | .tup _ => false
  | .raw v => v.oneCell'
  | _ => true
theorem Rd.cells {C : Cx} {w : World} {d : D} {v : Value} {ds : List D} (h : Rd C w d v) (e : cellsD d = some ds) : RdL C w ds v.cells.toList := by
  cases d with
  | any => cases e
  | raw u =>
    simp only [Rd] at h
    subst h
    simp only [cellsD, Option.some.injEq] at e
    subst e
    exact RdL.raws C w _
  | agg es =>
    simp only [cellsD, Option.some.injEq] at e
    subst e
    simp only [Rd] at h
    obtain ⟨vs, rfl, r⟩ := h
    simpa [Value.cells] using r
  | tup es =>
    simp only [cellsD, Option.some.injEq] at e
    subst e
    have h' := h
    simp only [Rd] at h
    obtain ⟨vs, rfl, r⟩ := h
    exact ⟨_, [], rfl, h', rfl⟩
  | sl tag sz es =>
    simp only [cellsD, Option.some.injEq] at e
    subst e
    have h' := h
    simp only [Rd] at h
    obtain ⟨⟨a, cap, rfl, _⟩, _⟩ := h
    exact ⟨_, [], rfl, h', rfl⟩
  | bx id off =>
    simp only [cellsD, Option.some.injEq] at e
    subst e
    have h' := h
    simp only [Rd] at h
    obtain ⟨b, _, rfl⟩ := h
    exact ⟨_, [], rfl, h', rfl⟩
  | ms id off n =>
    simp only [cellsD, Option.some.injEq] at e
    subst e
    have h' := h
    simp only [Rd] at h
    obtain ⟨b, cap, _, rfl, _⟩ := h
    exact ⟨_, [], rfl, h', rfl⟩
  | mp id sz j fld =>
    simp only [cellsD, Option.some.injEq] at e
    subst e
    have h' := h
    simp only [Rd] at h
    obtain ⟨b, _, rfl⟩ := h
    exact ⟨_, [], rfl, h', rfl⟩
  | sln n =>
    simp only [cellsD, Option.some.injEq] at e
    subst e
    have h' := h
    simp only [Rd] at h
    obtain ⟨a, cap, rfl⟩ := h
    exact ⟨_, [], rfl, h', rfl⟩
  | pe d off =>
    simp only [cellsD, Option.some.injEq] at e
    subst e
    have h' := h
    simp only [Rd] at h
    obtain ⟨b, o, u, rfl, _⟩ := h
    exact ⟨_, [], rfl, h', rfl⟩
  | fn f x y =>
    simp only [cellsD, Option.some.injEq] at e
    subst e
    have h' := h
    simp only [Rd] at h
    obtain ⟨vs, us, rfl, _⟩ := h
    exact ⟨_, [], rfl, h', rfl⟩
  | ifc t d =>
    simp only [cellsD, Option.some.injEq] at e
    subst e
    have h' := h
    simp only [Rd] at h
    obtain ⟨u, rfl, _⟩ := h
    exact ⟨_, [], rfl, h', rfl⟩
theorem Rd.leaf {C : Cx} {w : World} {d : D} {v : Value} (h : Rd C w d v) (e : leafD d = true) : v.oneCell' = true := by
  cases d <;> simp only [Rd] at h <;> simp only [leafD] at e <;> first | cases e | skip
  case raw => subst h; exact e
  case sl => obtain ⟨⟨a, cap, rfl, _⟩, _⟩ := h; rfl
  case bx => obtain ⟨b, _, rfl⟩ := h; rfl
  case mp => obtain ⟨b, _, rfl⟩ := h; rfl
  case ms => obtain ⟨b, cap, _, rfl, _⟩ := h; rfl
  case sln => obtain ⟨a, cap, rfl⟩ := h; rfl
  case pe => obtain ⟨b, o, u, rfl, _⟩ := h; rfl
  case fn => obtain ⟨vs, us, rfl, _⟩ := h; rfl
  case ifc => obtain ⟨u, rfl, _⟩ := h; rfl
theorem RdL.leaves {C : Cx} {w : World} : ∀ {ds : List D} {vs : List Value}, RdL C w ds vs → ds.all leafD = true → ∀ u ∈ vs, u.oneCell' = true
  | [], _, h, _, u, hu => by cases h; cases hu
  | d :: ds, _, ⟨v, rest, e, r1, r2⟩, hl, u, hu => by
    subst e
    simp only [List.all_cons, Bool.and_eq_true] at hl
    rcases List.mem_cons.1 hu with rfl | hu
    · exact r1.leaf hl.1
    · exact r2.leaves hl.2 u hu
/-! ### The store of boxes grows, and turns -/
section grow
variable {C : Cx} {h : H} {w : World}
theorem Sim.old (s : Sim C h w) {id : Nat} {t : TypeId} {ds : List D} (e : h[id]? = some (.box t ds)) : id < h.length := (List.getElem?_eq_some_iff.1 e).1
theorem Sim.fresh (s : Sim C h w) : C.bx h.length = none ∧ C.lg h.length = none := by
  refine ⟨?_, ?_⟩
  · cases e : C.bx h.length with
    | none => rfl
    | some b => exact absurd (s.idb _ _ e) (Nat.lt_irrefl _)
  · cases e : C.lg h.length with
    | none => rfl
    | some b => exact absurd (s.idl _ _ e) (Nat.lt_irrefl _)
def setf {α : Type} (f : Nat → Option α) (i : Nat) (x : α) : Nat → Option α := fun k => if k = i then some x else f k
theorem setf_same {α : Type} (f : Nat → Option α) (i : Nat) (x : α) : setf f i x i = some x := if_pos rfl
theorem setf_other {α : Type} (f : Nat → Option α) {i k : Nat} (x : α) (h : k ≠ i) : setf f i x k = f k := if_neg h
/-- A new block: it may be a box (B), a log (L), stable cells (T), or nothing. -/
def Cx.grow (C : Cx) (w : World) (T : Nat → Prop) : Cx := { C with S := fun b o => C.S b o ∨ (b = w.heap.size ∧ T o) }
theorem Cx.grow_blk (C : Cx) (w : World) (T : Nat → Prop) (id b : Nat) : (C.grow w T).blk id b ↔ C.blk id b := Iff.rfl
/-- The world has a new block, that the reading may take as stable. -/
theorem Fw.alloc (s : Sim C h w) (o : Obj) (T : Nat → Prop) : Fw C w (C.grow w T) (w.alloc o) := by
  have hcell : ∀ b o', C.S b o' → (w.alloc o).cell? ⟨b, o', none⟩ = w.cell? ⟨b, o', none⟩ := fun b o' hs => World.cell?_of_block (a := ⟨b, o', none⟩) (Below.heap_alloc w o b (s.S b o' hs))
  exact ⟨⟨rfl, rfl, rfl, by simp, fun _ _ h => .inl h, hcell, fun _ _ h => h, fun _ u h => ⟨u, h, .inl rfl⟩⟩, fun b hb _ => Below.heap_alloc w o b hb, fun id _ h _ => ⟨id, h⟩, fun b o hs hb => by
    rcases hs with hs | ⟨rfl, _⟩
    · exact .inl hs
    · omega⟩
theorem Sim.alloc (s : Sim C h w) (o : Obj) (T : Nat → Prop) : Sim (C.grow w T) h (w.alloc o) := by
  have f := Fw.alloc s o T
  refine ⟨s.S.mono f.toEv fun b o' hs => ?_, fun id t ds e => ?_, fun id e sz n e' => ?_, fun id b hb => ?_, s.idb, s.idl, s.inj, s.one, fun id b P e => ?_⟩
  · rcases hs with hs | ⟨rfl, _⟩
    · have := s.S b o' hs; simp; omega
    · simp
  · obtain ⟨b, vs, h1, h2, h3, h4, h5⟩ := s.box id t ds e
    have hb : b < w.heap.size := (Array.getElem?_eq_some_iff.1 h2).1
    refine ⟨b, vs, h1, (Below.heap_alloc w o b hb).trans h2, h3.mono f.toEv, h4, fun o' hs => ?_⟩
    rcases hs with hs | ⟨rfl, _⟩
    · exact h5 o' hs
    · omega
  · obtain ⟨u, xs, h1, h2, h3⟩ := s.log id e sz n e'
    refine ⟨u, xs, h1, h2.alloc o, fun b o' hb hs => ?_⟩
    rcases hs with hs | ⟨rfl, _⟩
    · exact h3 b o' hb hs
    · have := (h2.lt _ hb).2
      omega
  · have := s.lt id b hb
    simp
    omega
  · obtain ⟨h1, ⟨x, h2, h3⟩, h4⟩ := s.keep id b P e
    have hb : b < w.heap.size := s.lt id b (.inl h1)
    refine ⟨h1, ⟨x, (Below.heap_alloc w o b hb).trans h2, h3⟩, fun o' hs => ?_⟩
    rcases hs with hs | ⟨rfl, _⟩
    · exact h4 o' hs
    · omega
theorem Sim.drew (s : Sim C h w) : Sim C h w.drew ∧ Fw C w C w.drew := by
  have f : Fw C w C w.drew := ⟨⟨rfl, rfl, rfl, Nat.le_refl _, fun _ _ h => h, fun _ _ _ => rfl, fun _ _ h => h, fun _ u h => ⟨u, h, .inl rfl⟩⟩, fun _ _ _ => rfl, fun id _ h _ => ⟨id, h⟩, fun _ _ h _ => .inl h⟩
  refine ⟨⟨s.S.mono f.toEv s.S.lt, fun id t ds e => ?_, fun id e sz n e' => ?_, s.lt, s.idb, s.idl, s.inj, s.one, fun id b P e => ⟨(s.keep id b P e).bx, (s.keep id b P e).ob, (s.keep id b P e).ns⟩⟩, f⟩
  · obtain ⟨b, vs, h1, h2, h3, h4, h5⟩ := s.box id t ds e
    exact ⟨b, vs, h1, h2, h3.mono f.toEv, h4, h5⟩
  · obtain ⟨u, xs, h1, h2, h3⟩ := s.log id e sz n e'
    exact ⟨u, xs, h1, h2, h3⟩
/-- A new box. -/
theorem Sim.box_new (s : Sim C h w) (t : TypeId) {ds : List D} {vs : Array Value} (r : RdL C w ds vs.toList) (h1 : ∀ u ∈ vs.toList, u.oneCell' = true) :
    ∃ C', Fw C w C' (w.alloc (.cells vs t)) ∧ Sim C' (h ++ [.box t ds]) (w.alloc (.cells vs t)) ∧ C'.bx h.length = some w.heap.size := by
  have s1 := s.alloc (.cells vs t) (fun _ => False)
  have f1 := Fw.alloc s (.cells vs t) (fun _ => False)
  obtain ⟨fb, fl⟩ := s.fresh
  let C1 := C.grow w (fun _ => False)
  let C' : Cx := { C1 with bx := setf C.bx h.length w.heap.size }
  have hblk : ∀ id b, C'.blk id b → C.blk id b ∨ (id = h.length ∧ b = w.heap.size) := fun id b hb => by
    rcases hb with hb | hb
    · by_cases e : id = h.length
      · subst e
        have : some w.heap.size = some b := (setf_same _ _ _).symm.trans hb
        exact .inr ⟨rfl, (Option.some.inj this).symm⟩
      · exact .inl (.inl ((setf_other _ _ e).symm.trans hb))
    · exact .inl (.inr hb)
  have e1 : Ev C1 (w.alloc (.cells vs t)) C' (w.alloc (.cells vs t)) := ⟨rfl, rfl, rfl, Nat.le_refl _, fun _ _ h => h, fun _ _ _ => rfl, fun id b hb => by
    have : id ≠ h.length := fun e => by subst e; rw [show C1.bx h.length = none from fb] at hb; cases hb
    exact (setf_other _ _ this).trans hb, fun _ u h => ⟨u, h, .inl rfl⟩⟩
  have f : Fw C w C' (w.alloc (.cells vs t)) := by
    have e0 := f1.toEv
    refine ⟨⟨rfl, rfl, rfl, e0.size, e0.sub, e0.cell, fun id b hb => e1.bx id b hb, fun id u hu => ⟨u, hu, .inl rfl⟩⟩, f1.frame, fun id b hb hlt => ?_, f1.new⟩
    rcases hblk id b hb with h' | ⟨_, rfl⟩
    · exact ⟨id, h'⟩
    · omega
  refine ⟨C', f, ⟨s1.S, fun id t' ds' e => ?_, fun id e sz n e' => ?_, fun id b hb => ?_, fun id b hb => ?_, fun id u hu => ?_, fun id id' b hb hb' => ?_, fun id b hb => ?_, fun id b P e => ?_⟩, setf_same _ _ _⟩
  · by_cases hid : id < h.length
    · rw [List.getElem?_append_left hid] at e
      obtain ⟨b, vs', h2, h3, h4, h5, h6⟩ := s1.box id t' ds' e
      exact ⟨b, vs', e1.bx id b h2, h3, h4.mono e1, h5, h6⟩
    · have hid' : id = h.length := by
        have := (List.getElem?_eq_some_iff.1 e).1
        simp at this
        omega
      subst hid'
      simp at e
      obtain ⟨rfl, rfl⟩ := e
      refine ⟨w.heap.size, vs, setf_same _ _ _, heap_alloc_new w _, r.mono f.toEv, h1, fun o hs => ?_⟩
      rcases hs with hs | ⟨_, hf⟩
      · exact Nat.lt_irrefl _ (s.S _ _ hs)
      · exact hf
  · have hid : id < h.length := by
      have := (List.getElem?_eq_some_iff.1 e').1
      by_cases hid : id < h.length
      · exact hid
      · simp at this
        have hid' : id = h.length := by omega
        subst hid'
        simp at e'
    rw [List.getElem?_append_left hid] at e'
    exact s1.log id e sz n e'
  · rcases hblk id b hb with h' | ⟨_, rfl⟩
    · exact s1.lt id b h'
    · simp
  · by_cases e : id = h.length
    · simp [e]
    · have := s.idb id b ((setf_other _ _ e).symm.trans hb)
      simp; omega
  · have := s.idl id u hu
    simp; omega
  · rcases hblk id b hb with h2 | ⟨rfl, rfl⟩ <;> rcases hblk id' _ hb' with h3 | ⟨rfl, e⟩
    · exact s.inj id id' b h2 h3
    · subst e; exact absurd (s.lt id _ h2) (Nat.lt_irrefl _)
    · exact absurd (s.lt id' _ h3) (Nat.lt_irrefl _)
    · rfl
  · by_cases e : id = h.length
    · subst e; exact fl
    · exact s.one id b ((setf_other _ _ e).symm.trans hb)
  · rcases ids_old e with ⟨_, e⟩ | ⟨_, e⟩
    · obtain ⟨h1, h2, h3⟩ := s1.keep id b P e
      exact ⟨e1.bx id b h1, h2, h3⟩
    · cases e
end grow
end Go.Proofs.Ytbfmaicoefefaaa.Pv
/-! ## Part 3 -/
namespace Go.Proofs.Ytbfmaicoefefaaa.Pv
open Go Go.RowKit
section
variable {C : Cx} {h : H} {w : World}
theorem cell_row {w : World} {b o : Nat} {cs : Array Value} {t : TypeId} {fr : Nat × Nat} (hg : w.heap[b]? = some (.cells cs t fr)) : w.cell? ⟨b, o, none⟩ = cs[o]? := by
  simp [World.cell?, hg]
theorem Fw.setRow {id b : Nat} (hb : C.blk id b) {cur cs : Array Value} {t : TypeId} (hg : w.heap[b]? = some (.cells cur t (0, 0))) (hk : ∀ o, C.S b o → cs[o]? = cur[o]?) : Fw C w C (w.setRow b cs) := by
  refine ⟨⟨rfl, rfl, rfl, by simp, fun _ _ h => h, fun b' o hs => ?_, fun _ _ h => h, fun _ u h => ⟨u, h, .inl rfl⟩⟩, fun b' _ hn => setRow_other _ _ _ _ fun e => hn id (e ▸ hb), fun id' _ h' _ => ⟨id', h'⟩, fun _ _ h' _ => .inl h'⟩
  by_cases e : b' = b
  · subst e
    rw [cell_setRow_same w b' o cur cs t (0, 0) hg, cell_row hg]
    exact hk o hs
  · exact cell_setRow_other _ _ _ _ e
/-- A store into a box. -/
theorem Sim.store (s : Sim C h w) {id : Nat} {t : TypeId} {ds es : List D} {b : Nat} {vs : Array Value} (e : h[id]? = some (.box t ds)) (hb : C.bx id = some b) (hg : w.heap[b]? = some (.cells vs t (0, 0)))
    (hS : ∀ o, ¬ C.S b o) {us : Array Value} (r : RdL C w es us.toList) (h1 : ∀ u ∈ us.toList, u.oneCell' = true) :
    Fw C w C (w.setRow b us) ∧ Sim C (h.set id (.box t es)) (w.setRow b us) := by
  have f : Fw C w C (w.setRow b us) := Fw.setRow (id := id) (.inl hb) hg fun o hs => absurd hs (hS o)
  have hid : id < h.length := (List.getElem?_eq_some_iff.1 e).1
  refine ⟨f, s.S.mono f.toEv (fun b' o hs => (by simpa using s.S b' o hs)), fun id' t' ds' e' => ?_, fun id' e1 sz n e' => ?_, fun id' b' hb' => (by simpa using s.lt id' b' hb'), fun id' b' hb' => (by simpa using s.idb id' b' hb'), fun id' u hu => (by simpa using s.idl id' u hu), s.inj, s.one, fun id' b' P e' => ?_⟩
  · by_cases hi : id' = id
    · subst hi
      rw [List.getElem?_set_self hid] at e'
      simp at e'
      obtain ⟨rfl, rfl⟩ := e'
      exact ⟨b, us, hb, setRow_heap w b vs us t (0, 0) hg, r.mono f.toEv, h1, hS⟩
    · rw [List.getElem?_set_ne (fun e => hi e.symm)] at e'
      obtain ⟨b', vs', h2, h3, h4, h5, h6⟩ := s.box id' t' ds' e'
      refine ⟨b', vs', h2, ?_, h4.mono f.toEv, h5, h6⟩
      rw [setRow_other _ _ _ _ fun e => hi (s.inj id' id b (.inl (h2.trans (congrArg some e))) (.inl hb))]
      exact h3
  · have hi : id' ≠ id := fun hi => by
      subst hi
      rw [List.getElem?_set_self hid] at e'
      simp at e'
    rw [List.getElem?_set_ne (fun e => hi e.symm)] at e'
    obtain ⟨u, xs, h2, h3, h4⟩ := s.log id' e1 sz n e'
    refine ⟨u, xs, h2, ?_, h4⟩
    refine h3.kept (row := some b) ⟨rfl, rfl, rfl, by simp, fun k _ hne => setRow_other _ _ _ _ fun e => hne (by rw [e])⟩ ?_
    right
    intro he
    exact hi (s.inj id' id b (.inr ⟨u, h2, he⟩) (.inl hb))
  · obtain ⟨hi, e'⟩ := set_old e' (fun h => by cases h)
    obtain ⟨h2, ⟨x, h3, h4⟩, h5⟩ := s.keep id' b' P e'
    refine ⟨h2, ⟨x, ?_, h4⟩, h5⟩
    rw [setRow_other _ _ _ _ fun e => hi (s.inj id' id b (.inl (h2.trans (congrArg some e))) (.inl hb))]
    exact h3
/-! ### Logs -/
theorem ownsRow_form {e sz : Nat} {u : Value} {n : Nat} {xs : List Value} (h : w.ownsRow 0 e sz u n xs) : ∃ a cap, u = .slice a n cap ∧ n ≤ cap ∧ cap ≤ maxLen := by
  rcases h.2 with ⟨rfl, rfl⟩ | ⟨g, cap, cur, rfl, _, _, h1, h2, _⟩
  · exact ⟨_, _, rfl, Nat.le_refl _, by unfold maxLen; omega⟩
  · exact ⟨_, _, rfl, h1, h2⟩
theorem ownsRow_len {e sz : Nat} {u : Value} {n : Nat} {xs : List Value} (h : w.ownsRow 0 e sz u n xs) : lenV u = n := by
  obtain ⟨a, cap, rfl, _⟩ := ownsRow_form h
  rfl
/-- A log of a nil slice: no block, nothing has turned. -/
theorem Sim.log_nil (s : Sim C h w) (e sz : Nat) : ∃ C', Fw C w C' w ∧ Sim C' (h ++ [.log e sz 0]) w ∧ C'.lg h.length = some (.slice none 0 0) := by
  obtain ⟨fb, fl⟩ := s.fresh
  let C' : Cx := { C with lg := setf C.lg h.length (.slice none 0 0) }
  have hblk : ∀ id b, C'.blk id b → C.blk id b := fun id b hb => by
    rcases hb with hb | ⟨u, hu, hb⟩
    · exact .inl hb
    · by_cases e : id = h.length
      · subst e
        have : some (Value.slice none 0 0) = some u := (setf_same _ _ _).symm.trans hu
        cases this
        simp [Value.ownBlock] at hb
      · exact .inr ⟨u, (setf_other _ _ e).symm.trans hu, hb⟩
  have f : Fw C w C' w := ⟨⟨rfl, rfl, rfl, Nat.le_refl _, fun _ _ h => h, fun _ _ _ => rfl, fun _ _ h => h, fun id u hu => ⟨u, by
    have : id ≠ h.length := fun e => by subst e; rw [fl] at hu; cases hu
    exact (setf_other _ _ this).trans hu, .inl rfl⟩⟩, fun _ _ _ => rfl, fun id b hb _ => ⟨id, hblk id b hb⟩, fun _ _ h _ => .inl h⟩
  refine ⟨C', f, ⟨s.S, fun id t ds e' => ?_, fun id e1 sz1 n e' => ?_, fun id b hb => s.lt id b (hblk id b hb), fun id b hb => ?_, fun id u hu => ?_, fun id id' b hb hb' => s.inj id id' b (hblk id b hb) (hblk id' b hb'), fun id b hb => ?_, fun id b P e' => ?_⟩, setf_same _ _ _⟩
  · have hid : id < h.length := by
      have := (List.getElem?_eq_some_iff.1 e').1
      by_cases hid : id < h.length
      · exact hid
      · simp at this
        have hid' : id = h.length := by omega
        subst hid'
        simp at e'
    rw [List.getElem?_append_left hid] at e'
    obtain ⟨b, vs, h1, h2, h3, h4, h5⟩ := s.box id t ds e'
    exact ⟨b, vs, h1, h2, h3.mono f.toEv, h4, h5⟩
  · by_cases hid : id < h.length
    · rw [List.getElem?_append_left hid] at e'
      obtain ⟨u, xs, h1, h2, h3⟩ := s.log id e1 sz1 n e'
      exact ⟨u, xs, (setf_other _ _ (by omega)).trans h1, h2, h3⟩
    · have hid' : id = h.length := by
        have := (List.getElem?_eq_some_iff.1 e').1
        simp at this
        omega
      subst hid'
      simp at e'
      obtain ⟨rfl, rfl, rfl⟩ := e'
      exact ⟨_, [], setf_same _ _ _, World.ownsRow_nil _ _ _ _, fun b o hb => by simp [Value.ownBlock] at hb⟩
  · have := s.idb id b hb
    simp; omega
  · by_cases e : id = h.length
    · simp [e]
    · have := s.idl id u ((setf_other _ _ e).symm.trans hu)
      simp; omega
  · have : id ≠ h.length := fun e => by
      have := s.idb id b hb
      omega
    exact (setf_other _ _ this).trans (s.one id b hb)
  · rcases ids_old e' with ⟨_, e'⟩ | ⟨_, e'⟩
    · obtain ⟨h1, h2, h3⟩ := s.keep id b P e'
      exact ⟨h1, h2, h3⟩
    · cases e'
/-- A new row, as a log: all of it is told. -/
theorem Sim.log_new (s : Sim C h w) (e sz n : Nat) (cur : Array Value) (hn : cur.size = n * sz) (hm : n ≤ maxLen) :
    ∃ C', Fw C w C' (w.alloc (.cells cur e)) ∧ Sim C' (h ++ [.log e sz n]) (w.alloc (.cells cur e)) ∧ C'.lg h.length = some (.slice (some ⟨w.heap.size, 0, none⟩) n n) ∧ (∀ o, o < n * sz → C'.S w.heap.size o) ∧ ∀ o, (w.alloc (.cells cur e)).cell? ⟨w.heap.size, o, none⟩ = cur[o]? := by
  obtain ⟨fb, fl⟩ := s.fresh
  let C1 := C.grow w (fun o => o < n * sz)
  have s1 : Sim C1 h (w.alloc (.cells cur e)) := s.alloc _ _
  have f1 : Fw C w C1 (w.alloc (.cells cur e)) := Fw.alloc s _ _
  let u : Value := .slice (some ⟨w.heap.size, 0, none⟩) n n
  let C' : Cx := { C1 with lg := setf C.lg h.length u }
  have hblk : ∀ id b, C'.blk id b → C.blk id b ∨ (id = h.length ∧ b = w.heap.size) := fun id b hb => by
    rcases hb with hb | ⟨u', hu, hb⟩
    · exact .inl (.inl hb)
    · by_cases e : id = h.length
      · subst e
        have : some u = some u' := (setf_same _ _ _).symm.trans hu
        cases this
        simp [u, Value.ownBlock] at hb
        exact .inr ⟨rfl, hb.symm⟩
      · exact .inl (.inr ⟨u', (setf_other _ _ e).symm.trans hu, hb⟩)
  have hlg : ∀ id x, C.lg id = some x → C'.lg id = some x := fun id x hx => by
    have : id ≠ h.length := fun e => by subst e; rw [fl] at hx; cases hx
    exact (setf_other _ _ this).trans hx
  have e1 : Ev C1 (w.alloc (.cells cur e)) C' (w.alloc (.cells cur e)) := ⟨rfl, rfl, rfl, Nat.le_refl _, fun _ _ h => h, fun _ _ _ => rfl, fun id b hb => hb, fun id x hx => ⟨x, hlg id x hx, .inl rfl⟩⟩
  have f : Fw C w C' (w.alloc (.cells cur e)) := by
    have e0 := f1.toEv
    refine ⟨⟨rfl, rfl, rfl, e0.size, e0.sub, e0.cell, fun id b hb => hb, fun id x hx => ⟨x, hlg id x hx, .inl rfl⟩⟩, f1.frame, fun id b hb hlt => ?_, f1.new⟩
    rcases hblk id b hb with h' | ⟨_, rfl⟩
    · exact ⟨id, h'⟩
    · omega
  refine ⟨C', f, ⟨s1.S, fun id t ds e' => ?_, fun id e2 sz2 n2 e' => ?_, fun id b hb => ?_, fun id b hb => ?_, fun id x hx => ?_, fun id id' b hb hb' => ?_, fun id b hb => ?_, fun id b P e' => ?_⟩, setf_same _ _ _, fun o ho => .inr ⟨rfl, ho⟩, fun o => World.cell?_alloc_new w _ _ o⟩
  · have hid : id < h.length := by
      have := (List.getElem?_eq_some_iff.1 e').1
      by_cases hid : id < h.length
      · exact hid
      · simp at this
        have hid' : id = h.length := by omega
        subst hid'
        simp at e'
    rw [List.getElem?_append_left hid] at e'
    obtain ⟨b, vs, h1, h2, h3, h4, h5⟩ := s1.box id t ds e'
    exact ⟨b, vs, h1, h2, h3.mono e1, h4, h5⟩
  · by_cases hid : id < h.length
    · rw [List.getElem?_append_left hid] at e'
      obtain ⟨x, xs, h1, h2, h3⟩ := s1.log id e2 sz2 n2 e'
      exact ⟨x, xs, hlg id x h1, h2, h3⟩
    · have hid' : id = h.length := by
        have := (List.getElem?_eq_some_iff.1 e').1
        simp at this
        omega
      subst hid'
      simp at e'
      obtain ⟨rfl, rfl, rfl⟩ := e'
      refine ⟨u, cur.toList, setf_same _ _ _, ⟨by simpa using hn, .inr ⟨w.heap.size, n, cur, rfl, Nat.zero_le _, heap_alloc_new w _, Nat.le_refl _, hm, hn, by rw [List.take_of_length_le (by simp [hn])]⟩⟩, fun b o hb hs => ?_⟩
      simp [u, Value.ownBlock] at hb
      subst hb
      rcases hs with hs | ⟨_, hs⟩
      · exact absurd (s.S _ _ hs) (Nat.lt_irrefl _)
      · exact hs
  · rcases hblk id b hb with h' | ⟨_, rfl⟩
    · exact s1.lt id b h'
    · simp
  · have := s.idb id b hb
    simp; omega
  · by_cases e : id = h.length
    · simp [e]
    · have := s.idl id x ((setf_other _ _ e).symm.trans hx)
      simp; omega
  · rcases hblk id b hb with h2 | ⟨rfl, rfl⟩ <;> rcases hblk id' _ hb' with h3 | ⟨rfl, e⟩
    · exact s.inj id id' b h2 h3
    · subst e; exact absurd (s.lt id _ h2) (Nat.lt_irrefl _)
    · exact absurd (s.lt id' _ h3) (Nat.lt_irrefl _)
    · rfl
  · have : id ≠ h.length := fun e => by
      have := s.idb id b hb
      omega
    exact (setf_other _ _ this).trans (s.one id b hb)
  · rcases ids_old e' with ⟨_, e'⟩ | ⟨_, e'⟩
    · obtain ⟨h1, h2, h3⟩ := s1.keep id b P e'
      exact ⟨h1, h2, h3⟩
    · cases e'
/-- A log has a new value: in its block, or in a new one. -/
theorem Sim.log_turn (s : Sim C h w) {id e sz n : Nat} (he : h[id]? = some (.log e sz n)) {u : Value} {xs : List Value} (hu : C.lg id = some u) (ho : w.ownsRow 0 e sz u n xs) (hS0 : ∀ b o, u.ownBlock = some b → C.S b o → o < n * sz)
    {m : Nat} (hm : 0 < m) {w' : World} {v : Value} {ys : List Value} (hown : w'.ownsRow 0 e sz v (n + m) ys) (hgrow : w.grownBy w' u.ownBlock)
    {g : Nat} (hg : v.ownBlock = some g) (hat : u.ownBlock = some g ∨ g = w.heap.size) (hkeep : ∀ b o, u.ownBlock = some b → o < n * sz → w'.cell? ⟨b, o, none⟩ = w.cell? ⟨b, o, none⟩) :
    ∃ C', Fw C w C' w' ∧ Sim C' (h.set id (.log e sz (n + m))) w' ∧ C'.lg id = some v ∧ ∀ o, o < (n + m) * sz → C'.S g o := by
  have hid : id < h.length := (List.getElem?_eq_some_iff.1 he).1
  have hlu := ownsRow_len ho
  have hlv := ownsRow_len hown
  have hglt : g < w'.heap.size := (hown.lt g hg).2
  let C' : Cx := { S := fun b o => C.S b o ∨ (b = g ∧ o < (n + m) * sz), bx := C.bx, lg := setf C.lg id v }
  have hbxid : ∀ b, C.bx id ≠ some b := fun b hb => by rw [s.one id b hb] at hu; cases hu
  have hblk : ∀ id' b, C'.blk id' b → (id' ≠ id ∧ C.blk id' b) ∨ (id' = id ∧ b = g) := fun id' b hb => by
    rcases hb with hb | ⟨u', hu', hb⟩
    · exact .inl ⟨fun e => hbxid b (e ▸ hb), .inl hb⟩
    · by_cases e : id' = id
      · subst e
        have : some v = some u' := (setf_same _ _ _).symm.trans hu'
        cases this
        rw [hg] at hb
        exact .inr ⟨rfl, (Option.some.inj hb).symm⟩
      · exact .inl ⟨e, .inr ⟨u', (setf_other _ _ e).symm.trans hu', hb⟩⟩
  have hkc : ∀ b o, C.S b o → w'.cell? ⟨b, o, none⟩ = w.cell? ⟨b, o, none⟩ := fun b o hs => by
    by_cases e : some b = u.ownBlock
    · exact hkeep b o e.symm (hS0 b o e.symm hs)
    · exact World.cell?_of_block (a := ⟨b, o, none⟩) (hgrow.block b (s.S b o hs) e)
  have f : Fw C w C' w' := by
    refine ⟨⟨hgrow.os, hgrow.tape, hgrow.output, hgrow.size, fun _ _ h => .inl h, hkc, fun _ _ h => h, fun id' x hx => ?_⟩, fun b hb hn => ?_, fun id' b hb hlt => ?_, fun b o hs hlt => ?_⟩
    · by_cases e : id' = id
      · subst e
        rw [hu] at hx
        cases hx
        exact ⟨v, setf_same _ _ _, .inr (by rw [hlu, hlv]; omega)⟩
      · exact ⟨x, (setf_other _ _ e).trans hx, .inl rfl⟩
    · exact hgrow.block b hb fun e => hn id (.inr ⟨u, hu, e.symm⟩)
    · rcases hblk id' b hb with ⟨_, h'⟩ | ⟨_, rfl⟩
      · exact ⟨id', h'⟩
      · rcases hat with h' | rfl
        · exact ⟨id, .inr ⟨u, hu, h'⟩⟩
        · omega
    · rcases hs with hs | ⟨rfl, _⟩
      · exact .inl hs
      · rcases hat with h' | rfl
        · exact .inr ⟨id, .inr ⟨u, hu, h'⟩⟩
        · omega
  have hnb : ∀ id' b, id' ≠ id → C.blk id' b → b ≠ g := fun id' b hne hb e => by
    subst e
    rcases hat with h' | rfl
    · exact hne (s.inj id' id b hb (.inr ⟨u, hu, h'⟩))
    · exact absurd (s.lt id' _ hb) (Nat.lt_irrefl _)
  have hub : ∀ id' b, id' ≠ id → C.blk id' b → some b ≠ u.ownBlock := fun id' b hne hb e => hne (s.inj id' id b hb (.inr ⟨u, hu, e.symm⟩))
  refine ⟨C', f, ⟨s.S.mono f.toEv fun b o hs => ?_, fun id' t ds e' => ?_, fun id' e2 sz2 n2 e' => ?_, fun id' b hb => ?_, fun id' b hb => (by simpa using s.idb id' b hb), fun id' x hx => ?_, fun id1 id2 b hb hb' => ?_, fun id' b hb => ?_, fun id' b P e' => ?_⟩, setf_same _ _ _, fun o ho => .inr ⟨rfl, ho⟩⟩
  · rcases hs with hs | ⟨rfl, _⟩
    · exact Nat.lt_of_lt_of_le (s.S b o hs) hgrow.size
    · exact hglt
  · have hi : id' ≠ id := fun hi => by
      subst hi
      rw [List.getElem?_set_self hid] at e'
      simp at e'
    rw [List.getElem?_set_ne (fun e => hi e.symm)] at e'
    obtain ⟨b, vs, h1, h2, h3, h4, h5⟩ := s.box id' t ds e'
    refine ⟨b, vs, h1, ?_, h3.mono f.toEv, h4, fun o hs => ?_⟩
    · rw [hgrow.block b (s.lt id' b (.inl h1)) (hub id' b hi (.inl h1))]
      exact h2
    · rcases hs with hs | ⟨e, _⟩
      · exact h5 o hs
      · exact hnb id' b hi (.inl h1) e
  · by_cases hi : id' = id
    · subst hi
      rw [List.getElem?_set_self hid] at e'
      simp at e'
      obtain ⟨rfl, rfl, rfl⟩ := e'
      refine ⟨v, ys, setf_same _ _ _, hown, fun b o hb hs => ?_⟩
      rw [hg] at hb
      cases hb
      rcases hs with hs | ⟨_, hs⟩
      · rcases hat with h' | rfl
        · have := hS0 g o h' hs
          have : n * sz ≤ (n + m) * sz := Nat.mul_le_mul_right _ (by omega)
          omega
        · exact absurd (s.S _ _ hs) (Nat.lt_irrefl _)
      · exact hs
    · rw [List.getElem?_set_ne (fun e => hi e.symm)] at e'
      obtain ⟨x, zs, h1, h2, h3⟩ := s.log id' e2 sz2 n2 e'
      refine ⟨x, zs, (setf_other _ _ hi).trans h1, ?_, fun b o hb hs => ?_⟩
      · refine h2.kept hgrow ?_
        cases hx : x.ownBlock with
        | none => exact .inl rfl
        | some k => exact .inr fun e => hub id' k hi (.inr ⟨x, h1, hx⟩) e
      · rcases hs with hs | ⟨e, _⟩
        · exact h3 b o hb hs
        · exact absurd e (hnb id' b hi (.inr ⟨x, h1, hb⟩))
  · rcases hblk id' b hb with ⟨_, h'⟩ | ⟨_, rfl⟩
    · exact Nat.lt_of_lt_of_le (s.lt id' b h') hgrow.size
    · exact hglt
  · by_cases e : id' = id
    · subst e; simpa using hid
    · have := s.idl id' x ((setf_other _ _ e).symm.trans hx)
      simpa using this
  · rcases hblk id1 b hb with ⟨n1, h2⟩ | ⟨rfl, rfl⟩ <;> rcases hblk id2 _ hb' with ⟨n2, h3⟩ | ⟨rfl, e⟩
    · exact s.inj id1 id2 b h2 h3
    · exact absurd e (hnb id1 b n1 h2)
    · exact absurd rfl (hnb id2 _ n2 h3)
    · rfl
  · have : id' ≠ id := fun e => hbxid b (e ▸ hb)
    exact (setf_other _ _ this).trans (s.one id' b hb)
  · obtain ⟨hi, e'⟩ := set_old e' (fun h => by cases h)
    obtain ⟨h1, ⟨x, h2, h3⟩, h4⟩ := s.keep id' b P e'
    refine ⟨h1, ⟨x, ?_, h3⟩, fun o hs => ?_⟩
    · rw [hgrow.block b (s.lt id' b (.inl h1)) (hub id' b hi (.inl h1))]
      exact h2
    · rcases hs with hs | ⟨e, _⟩
      · exact h4 o hs
      · exact hnb id' b hi (.inl h1) e
end
end Go.Proofs.Ytbfmaicoefefaaa.Pv
/-! ## Part 4 -/
namespace Go.Proofs.Ytbfmaicoefefaaa.Pv
open Go Go.RowKit
/-! ### What runs without memory -/
def pureRun {α : Type} (P : Program) : Sem α → Option α
  | .pure a => some a
  | .program k => pureRun P (k P)
  | .mark _ k => pureRun P k
  | _ => none
theorem pureRun_sound {α : Type} {P : Program} : ∀ {s : Sem α} {a : α}, pureRun P s = some a → ∀ w, s.run P w = .ok a w
  | .pure b, a, h, w => by simp only [pureRun, Option.some.injEq] at h; subst h; rfl
  | .program k, a, h, w => by simp only [pureRun] at h; exact pureRun_sound (s := k P) h w
  | .mark _ k, a, h, w => by simp only [pureRun] at h; exact pureRun_sound (s := k) h w
  | .load .., _, h, _ | .store .., _, h, _ | .new .., _, h, _ | .shape .., _, h, _ | .freeze .., _, h, _ | .frozen .., _, h, _ | .getObj .., _, h, _ | .setObj .., _, h, _ | .choose .., _, h, _ | .sys .., _, h, _ | .halt _, _, h, _ => by simp [pureRun] at h
def rawV : D → Value
  | .raw v => v
  | _ => undef
def isRaw : D → Bool
  | .raw _ => true
  | _ => false
def isSelect : Op → Bool
  | .select .. => true
  | _ => false
def rawOp (P : Program) (ρ : Operand → D) (o : Oper) : Option D :=
  if o.op.operands.all (fun x => isRaw (ρ x)) && !isSelect o.op then
    match pureRun P (execOp (fun x => rawV (ρ x)) o) with
    | some (.value v) => some (.raw v)
    | _ => none
  else none
section
variable {P : Program} {C : Cx} {h : H} {w : World}
def Reads (C : Cx) (w : World) (ρ : Operand → D) (ρv : Operand → Value) : Prop := ∀ x, Rd C w (ρ x) (ρv x)
theorem rawOp_sound {ρ : Operand → D} {ρv : Operand → Value} {o : Oper} {d : D} (hr : Reads C w ρ ρv) (e : rawOp P ρ o = some d) : ∃ v, (execOp ρv o).run P w = .ok (.value v) w ∧ Rd C w d v := by
  unfold rawOp at e
  split at e
  · rename_i hc
    simp only [Bool.and_eq_true, Bool.not_eq_true'] at hc
    have he : execOp ρv o = execOp (fun x => rawV (ρ x)) o := by
      refine execOp_congr o (fun cs b hs => by rw [hs] at hc; simp [isSelect] at hc) fun x hx => ?_
      have h1 := (Array.all_eq_true_iff_forall_mem.1 hc.1) x hx
      have h2 := hr x
      cases hd : ρ x with
      | raw v => rw [hd] at h2; simpa [rawV, Rd] using h2
      | _ => rw [hd] at h1; simp [isRaw] at h1
    split at e
    · rename_i v hv
      cases e
      exact ⟨v, by rw [he]; exact pureRun_sound hv w, rfl⟩
    · cases e
  · cases e
/-! ### Good: what an operation comes to -/
def Good (P : Program) (C : Cx) (w : World) (r : Result Next) (d : D) (h' : H) : Prop :=
  ∃ v C' w', (r = .ok (.value v) w' ∨ (r = .ok .skip w' ∧ v = undef)) ∧ Fw C w C' w' ∧ Sim C' h' w' ∧ Rd C' w' d v
theorem Good.same (s : Sim C h w) {r : Result Next} {d : D} {v : Value} (e : r = .ok (.value v) w) (hd : Rd C w d v) : Good P C w r d h :=
  ⟨v, C, w, .inl e, Fw.refl _ _, s, hd⟩
/-! ### Types -/
def aggP (P : Program) (t : TypeId) : Option (Bool × Nat) :=
  match P.underlying t, P.info? t with
  | some d, some i => some (d.isRow, i.size)
  | _, _ => none
def partD (P : Program) (t : TypeId) (ds : List D) (off : Nat) : Option D :=
  match aggP P t with
  | some (true, sz) => if off + sz ≤ ds.length then some (.agg ((ds.drop off).take sz)) else none
  | some (false, _) => ds[off]?
  | none => none
theorem aggP_some {t : TypeId} {b : Bool} {n : Nat} (e : aggP P t = some (b, n)) : ∃ d i, P.underlying t = some d ∧ P.info? t = some i ∧ d.isRow = b ∧ i.size = n := by
  unfold aggP at e
  split at e
  · rename_i d i h1 h2
    simp at e
    exact ⟨d, i, h1, h2, e.1, e.2⟩
  · cases e
theorem run_isAgg {t : TypeId} {d : TypeDesc} (hu : P.underlying t = some d) (w : World) : (isAgg t).run P w = .ok d.isRow w := by
  unfold isAgg
  rw [Sem.run_bind, run_underlying hu w]
  cases d <;> rfl
theorem loadVar_part {t : TypeId} {ds : List D} {off : Nat} {d : D} (e : partD P t ds off = some d) {vs : List Value} (r : RdL C w ds vs) {b o : Nat} (hc : ∀ i (hi : i < vs.length), w.cell? ⟨b, o + i, none⟩ = some vs[i]) :
    ∃ v, (loadVar t ⟨b, o + off, none⟩).run P w = .ok v w ∧ Rd C w d v := by
  unfold partD at e
  split at e
  · rename_i sz ha
    obtain ⟨ds', i, h1, h2, h3, h4⟩ := aggP_some ha
    split at e
    · rename_i hle
      cases e
      refine ⟨.agg ((vs.drop off).take sz).toArray, ?_, _, rfl, (r.drop off).take sz⟩
      refine run_loadVar_mid w b (o + off) t ((vs.drop off).take sz) ds' (fun j v hv => ?_) h1 h3 ?_
      · have hj := (List.getElem?_eq_some_iff.1 hv).1
        simp at hj
        rw [List.getElem?_take_of_lt (by omega), List.getElem?_drop] at hv
        obtain ⟨hlt, rfl⟩ := List.getElem?_eq_some_iff.1 hv
        rw [Nat.add_assoc]
        exact hc _ hlt
      · rw [h2]
        simp [h4]
        have := r.len
        omega
    · cases e
  · rename_i sz ha
    obtain ⟨ds', i, h1, h2, h3, h4⟩ := aggP_some ha
    obtain ⟨v, hv, hr⟩ := r.get e
    obtain ⟨hlt, rfl⟩ := List.getElem?_eq_some_iff.1 hv
    refine ⟨_, ?_, hr⟩
    unfold loadVar
    rw [Sem.run_bind, run_isAgg h1 w, h3]
    simp [hc _ hlt]
  · cases e
/-! ### load, store -/
def loadD (P : Program) (h : H) (t : TypeId) : D → Option D
  | .bx id off => match h[id]? with | some (.box _ ds) => partD P t ds off | _ => none
  | .mp id sz j fld => match h[id]? with | some (.box _ ds) => partD P t ds (fld + j * sz) | _ => none
  | .pe d off => match cellsD d with | some ds => partD P t ds off | none => none
  | _ => none
theorem loadD_sound (s : Sim C h w) {t : TypeId} {a d : D} {av : Value} (ha : Rd C w a av) (e : loadD P h t a = some d) : ∃ v, (Instr.loadAt t av).run P w = .ok v w ∧ Rd C w d v := by
  unfold loadD at e
  split at e
  · rename_i id off
    split at e
    · rename_i bt ds hb
      obtain ⟨b, vs, h1, h2, h3, h4, h5⟩ := s.box id bt ds hb
      obtain ⟨b', hb', rfl⟩ := ha
      rw [h1] at hb'
      cases hb'
      obtain ⟨v, hv, hr⟩ := loadVar_part (P := P) e h3 (b := b) (o := 0) (fun i hi => by
        rw [Nat.zero_add, cell_row h2, Array.getElem?_eq_getElem (by simpa using hi)]
        simp)
      rw [Nat.zero_add] at hv
      refine ⟨v, ?_, hr⟩
      simp only [Instr.loadAt, Instr.sureAddr, Sem.run_bind, Sem.run_pure, Result.andThen_ok, hv]
    · cases e
  · rename_i id sz j fld
    split at e
    · rename_i bt ds hb
      obtain ⟨b, vs, h1, h2, h3, h4, h5⟩ := s.box id bt ds hb
      obtain ⟨b', hb', rfl⟩ := ha
      rw [h1] at hb'
      cases hb'
      obtain ⟨v, hv, hr⟩ := loadVar_part (P := P) e h3 (b := b) (o := 0) (fun i hi => by
        rw [Nat.zero_add, cell_row h2, Array.getElem?_eq_getElem (by simpa using hi)]
        simp)
      rw [Nat.zero_add] at hv
      refine ⟨v, ?_, hr⟩
      simp only [Instr.loadAt, Instr.sureAddr, Sem.run_bind, Sem.run_pure, Result.andThen_ok, hv]
    · cases e
  · rename_i d0 off
    split at e
    · rename_i ds hcd
      obtain ⟨b, o, u, rfl, hr, hc⟩ := ha
      obtain ⟨v, hv, hr'⟩ := loadVar_part (P := P) e (hr.cells hcd) (b := b) (o := o) (fun i hi => by
        have := (hc i (by simpa using hi)).2
        simpa using this)
      refine ⟨v, ?_, hr'⟩
      simp only [Instr.loadAt, Instr.sureAddr, Sem.run_bind, Sem.run_pure, Result.andThen_ok, hv]
    · cases e
  · cases e
def storeAtD (P : Program) (h : H) (t : TypeId) (id off : Nat) (x : D) : Option H :=
    match h[id]?, cellsD x, P.info? t with
    | some (.box bt ds), some es, some i => if es.length = i.size ∧ off + es.length ≤ ds.length ∧ es.all leafD = true then some (h.set id (.box bt (splice ds off es))) else none
    | _, _, _ => none
def storeD (P : Program) (h : H) (t : TypeId) (a x : D) : Option H :=
  match a with
  | .bx id off => storeAtD P h t id off x
  | .mp id sz j fld => storeAtD P h t id (fld + j * sz) x
  | _ => none
theorem splice_toArray {α : Type} (vs : Array α) (off : Nat) (us : List α) : (vs.toList.take (off + 0) ++ us ++ vs.toList.drop (off + 0 + us.length)) = splice vs.toList off us := by
  simp [splice]
theorem storeAtD_sound (s : Sim C h w) {t : TypeId} {id off : Nat} {x : D} {av xv : Value} {h' : H} (ha : ∃ b, C.bx id = some b ∧ av = .pointer (some ⟨b, off, none⟩)) (hx : Rd C w x xv) (e : storeAtD P h t id off x = some h') :
    ∃ w', (Instr.storeAt t av xv).run P w = .ok () w' ∧ Fw C w C w' ∧ Sim C h' w' := by
  unfold storeAtD at e
  split at e
  · rename_i bt ds es i h1 h2 h3
    split at e
    · rename_i hc
      cases e
      obtain ⟨b, vs, k1, k2, k3, k4, k5⟩ := s.box id bt ds h1
      obtain ⟨b', hb', rfl⟩ := ha
      rw [k1] at hb'
      cases hb'
      have hr := hx.cells h2
      have hl := hr.len
      have hone := hr.leaves hc.2.2
      have hdl := k3.len
      have hrun := run_storeCells_at P b off bt xv.cells.toList 0 vs w k2 (by simp at hl hdl ⊢; omega) hone
      rw [splice_toArray] at hrun
      refine ⟨_, ?_, Sim.store s h1 k1 k2 k5 (us := (splice vs.toList off xv.cells.toList).toArray) (by simpa using k3.splice hr off) ?_⟩
      · simp only [Instr.storeAt, Instr.sureAddr, Sem.run_bind, Sem.run_pure, Result.andThen_ok, storeVar, sizeOf, typeInfo, run_program, h3]
        have : xv.cells.size = i.size := by simp at hl; omega
        simp [this]
        exact hrun
      · intro u hu
        simp only [splice, List.mem_append] at hu
        rcases hu with (hu | hu) | hu
        · exact k4 u (List.mem_of_mem_take hu)
        · exact hone u hu
        · exact k4 u (List.mem_of_mem_drop hu)
    · cases e
  · cases e
theorem storeD_sound (s : Sim C h w) {t : TypeId} {a x : D} {av xv : Value} {h' : H} (ha : Rd C w a av) (hx : Rd C w x xv) (e : storeD P h t a x = some h') :
    ∃ w', (Instr.storeAt t av xv).run P w = .ok () w' ∧ Fw C w C w' ∧ Sim C h' w' := by
  unfold storeD at e
  split at e
  · exact storeAtD_sound s ha hx e
  · exact storeAtD_sound s ha hx e
  · cases e
/-! ### alloc, box -/
def zeroD (P : Program) (t : TypeId) : Option (List D) :=
  match P.info? t with
  | some i => match i.zero with
    | some z => if z.cells.all (·.oneCell') = true then some (z.cells.toList.map D.raw) else none
    | none => none
  | none => none
theorem zeroD_some {t : TypeId} {ds : List D} (e : zeroD P t = some ds) : ∃ i z, P.info? t = some i ∧ i.zero = some z ∧ (∀ u ∈ z.cells.toList, u.oneCell' = true) ∧ ds = z.cells.toList.map D.raw := by
  unfold zeroD at e
  split at e
  · rename_i i hi
    split at e
    · rename_i z hz
      split at e
      · rename_i hc
        cases e
        exact ⟨i, z, hi, hz, fun u hu => (Array.all_eq_true_iff_forall_mem.1 hc) u (by simpa using hu), rfl⟩
      · cases e
    · cases e
  · cases e
theorem box_good (s : Sim C h w) (t : TypeId) {v : Value} {ds : List D} (r : RdL C w ds v.cells.toList) (h1 : ∀ u ∈ v.cells.toList, u.oneCell' = true) :
    ∃ C' w' v', (newVar t v).run P w = .ok v' w' ∧ Fw C w C' w' ∧ Sim C' (h ++ [.box t ds]) w' ∧ Rd C' w' (.bx h.length 0) (.pointer (some v')) := by
  obtain ⟨C', f, s', hb⟩ := s.box_new t (vs := v.cells) r h1
  refine ⟨C', w.alloc (.cells v.cells t), ⟨w.heap.size, 0, none⟩, ?_, f, s', ?_⟩
  · simp [newVar, newRow]
  · exact ⟨_, hb, rfl⟩
/-! ### fieldAddr, indexAddr, slice, len -/
def fieldP (P : Program) (s : TypeId) (f : Nat) : Option (Nat × TypeId) :=
  match P.underlying s with
  | some (.struct fs) => match fs[f]? with
    | some fl => match P.info? fl.type with
      | some i => if i.size = 0 then none else some (fl.offset, fl.type)
      | none => none
    | none => none
  | _ => none
def moveP (n : Nat) : D → Option D
  | .bx id off => some (.bx id (off + n))
  | .mp id sz j fld => some (.mp id sz j (fld + n))
  | .pe d off => some (.pe d (off + n))
  | _ => none
theorem moveP_sound {n : Nat} {a d : D} {av : Value} (ha : Rd C w a av) (e : moveP n a = some d) : ∃ p : Addr, av = .pointer (some p) ∧ Rd C w d (.pointer (some (p.add n))) := by
  unfold moveP at e
  split at e
  · cases e
    obtain ⟨b, hb, rfl⟩ := ha
    exact ⟨_, rfl, b, hb, by rw [Addr.add_mid]⟩
  · cases e
    obtain ⟨b, hb, rfl⟩ := ha
    exact ⟨_, rfl, b, hb, by rw [Addr.add_mid, Nat.add_right_comm]⟩
  · cases e
    obtain ⟨b, o, u, rfl, hr, hc⟩ := ha
    exact ⟨_, rfl, b, o, u, by rw [Addr.add_mid, Nat.add_assoc], hr, hc⟩
  · cases e
theorem fieldAddr_sound {st : TypeId} {f n : Nat} {ft : TypeId} {a d : D} {av : Value} (hf : fieldP P st f = some (n, ft)) (ha : Rd C w a av) (e : moveP n a = some d) : ∃ v, (Instr.fieldAt st av f).run P w = .ok v w ∧ Rd C w d v := by
  obtain ⟨p, rfl, hr⟩ := moveP_sound ha e
  unfold fieldP at hf
  split at hf
  · rename_i fs h1
    split at hf
    · rename_i fl h2
      split at hf
      · rename_i i h3
        split at hf
        · cases hf
        · rename_i h4
          simp at hf
          obtain ⟨rfl, rfl⟩ := hf
          refine ⟨_, ?_, hr⟩
          simp [Instr.fieldAt, run_underlying h1, h2, Instr.sureAddr, fieldPlace, sizeOf, typeInfo, h3, h4]
      · cases hf
    · cases hf
  · cases hf
theorem RdE.get {sz : Nat} : ∀ {ds : List D} {f : Nat → Option Value}, RdE C w sz ds f → ∀ {i : Nat} {d : D}, ds[i]? = some d → ∃ u, Rd C w d u ∧ u.cells.size = sz ∧ (∀ c ∈ u.cells.toList, c.oneCell' = true) ∧ ∀ j (hj : j < u.cells.size), f (i * sz + j) = some u.cells[j]
  | [], _, _, _, _, e => by simp at e
  | x :: ds, f, ⟨⟨u, h1, h2, ho, h3⟩, _⟩, 0, d, e => by
    simp at e
    subst e
    exact ⟨u, h1, h2, ho, fun j hj => by rw [Nat.zero_mul, Nat.zero_add]; exact h3 j hj⟩
  | x :: ds, f, ⟨_, r⟩, i + 1, d, e => by
    simp at e
    obtain ⟨u, h1, h2, ho, h3⟩ := r.get e
    exact ⟨u, h1, h2, ho, fun j hj => by
      have := h3 j hj
      rw [← this]
      congr 1
      rw [Nat.add_mul, Nat.one_mul]
      omega⟩
theorem RdE.mk {sz : Nat} : ∀ {ds : List D} {f : Nat → Option Value}, (∀ i d, ds[i]? = some d → ∃ u, Rd C w d u ∧ u.cells.size = sz ∧ (∀ c ∈ u.cells.toList, c.oneCell' = true) ∧ ∀ j (hj : j < u.cells.size), f (i * sz + j) = some u.cells[j]) → RdE C w sz ds f
  | [], _, _ => trivial
  | x :: ds, f, h => by
    refine ⟨?_, RdE.mk fun i d e => ?_⟩
    · obtain ⟨u, h1, h2, ho, h3⟩ := h 0 x rfl
      exact ⟨u, h1, h2, ho, fun j hj => by have := h3 j hj; rwa [Nat.zero_mul, Nat.zero_add] at this⟩
    · obtain ⟨u, h1, h2, ho, h3⟩ := h (i + 1) d (by simpa using e)
      exact ⟨u, h1, h2, ho, fun j hj => by
        have := h3 j hj
        rw [← this]
        congr 1
        rw [Nat.add_mul, Nat.one_mul]
        omega⟩
def elemP (P : Program) (t : TypeId) : Option (TypeId × TypeInfo) :=
  match P.underlying t with
  | some (.slice e) => match P.info? e with
    | some i => some (e, i)
    | none => none
  | _ => none
theorem elemP_some {t e : TypeId} {i : TypeInfo} (h : elemP P t = some (e, i)) : P.underlying t = some (.slice e) ∧ P.info? e = some i := by
  unfold elemP at h
  split at h
  · rename_i e' h1
    split at h
    · rename_i i' h2
      simp at h
      obtain ⟨rfl, rfl⟩ := h
      exact ⟨h1, h2⟩
    · cases h
  · cases h
def indexD (P : Program) (t : TypeId) (x i : D) : Option D :=
  match elemP P t, x, i with
  | some (_, inf), .sl _ sz ds, .raw (.int _ n) => if 0 ≤ n ∧ inf.size = sz then (ds[n.toNat]?).map (.pe · 0) else none
  | some (_, inf), .ms id off len, .raw (.int _ n) => if 0 ≤ n ∧ n.toNat < len then some (.mp id inf.size n.toNat off) else none
  | _, _, _ => none
theorem indexD_sound {t : TypeId} {x i d : D} {xv iv : Value} (hx : Rd C w x xv) (hi : Rd C w i iv) (e : indexD P t x i = some d) : ∃ v, (Instr.indexAt t xv iv).run P w = .ok v w ∧ Rd C w d v := by
  unfold indexD at e
  split at e
  · rename_i _ _ _ el inf tag sz ds k n hel
    split at e
    · rename_i hc
      obtain ⟨hn, hsz⟩ := hc
      rw [Option.map_eq_some_iff] at e
      obtain ⟨y, hy, rfl⟩ := e
      obtain ⟨hlt, rfl⟩ := List.getElem?_eq_some_iff.1 hy
      obtain ⟨h1, h2⟩ := elemP_some hel
      obtain ⟨_, hx2, _⟩ := hx
      obtain ⟨b, off, cap, rfl, hs, hr⟩ := hx2 (by omega)
      simp only [Rd] at hi
      subst hi
      obtain ⟨u, k1, k2, _, k3⟩ := hr.get hy
      refine ⟨.pointer (some ⟨b, off + n.toNat * sz, none⟩), ?_, b, off + n.toNat * sz, u, rfl, k1, fun j hj => ⟨?_, ?_⟩⟩
      · have hlt' : n < (ds.length : Int) := by omega
        simp [Instr.indexAt, asIntOf, run_underlying h1, sizeOf, typeInfo, h2, hn, hlt', hsz, Addr.add_mid]
      · rw [Nat.add_assoc]
        refine hs _ ?_
        have h1 : (n.toNat + 1) * sz ≤ ds.length * sz := Nat.mul_le_mul_right _ hlt
        rw [Nat.add_mul, Nat.one_mul] at h1
        omega
      · rw [Nat.add_assoc]
        exact k3 j hj
    · cases e
  · rename_i _ _ _ el inf id off len k n hel
    split at e
    · rename_i hc
      obtain ⟨hn, hlt⟩ := hc
      cases e
      obtain ⟨h1, h2⟩ := elemP_some hel
      obtain ⟨b, cap, hb, rfl, _⟩ := hx
      simp only [Rd] at hi
      subst hi
      have hlt' : n < (len : Int) := by omega
      exact ⟨.pointer (some ⟨b, off + n.toNat * inf.size, none⟩), by simp [Instr.indexAt, asIntOf, run_underlying h1, sizeOf, typeInfo, h2, hn, hlt', Addr.add_mid], b, hb, rfl⟩
    · cases e
  · cases e
end
end Go.Proofs.Ytbfmaicoefefaaa.Pv
/-! ## Part 5 -/
namespace Go.Proofs.Ytbfmaicoefefaaa.Pv
open Go Go.RowKit
section
variable {P : Program} {C : Cx} {h : H} {w : World}
theorem run_append_room_row (t tx ty e : TypeId) (i : TypeInfo) (ht : P.underlying t = some (.slice e)) (hi : P.info? e = some i) (g sLen sCap : Nat) (cur : Array Value) (et : TypeId) (hg : w.heap[g]? = some (.cells cur et (0, 0)))
    (x : Value) (n : Nat) (news : List Value) (hs : Src P i.size tx x n news w) (hroom : sLen + n ≤ sCap) (hfit : sLen * i.size + news.length ≤ cur.size) :
    (Builtin.append_ #[t, tx] ty #[.slice (some ⟨g, 0, none⟩) sLen sCap, x]).run P w = .ok (.slice (some ⟨g, 0, none⟩) (sLen + n) sCap) (w.setRow g (cur.toList.take (sLen * i.size) ++ news ++ cur.toList.drop (sLen * i.size + news.length)).toArray) := by
  have hst := run_storeCells_at P g (sLen * i.size) et news 0 cur w hg (by simpa using hfit) hs.one
  simp only [Nat.add_zero] at hst
  have ha : (⟨g, 0, none⟩ : Addr).add (sLen * i.size) = ⟨g, sLen * i.size, none⟩ := by rw [Addr.add_mid, Nat.zero_add]
  rcases hs.kind with ⟨e', hk⟩ | hk <;> simp [Builtin.append_, run_underlying ht, run_underlying hk, sizeOf, typeInfo, hi, hs.len, hroom, hs.cells, ha, hst]
/-- append onto a row that is owned: where it lies then, and that the old one stands. -/
theorem run_append_src (t tx ty e : TypeId) (i : TypeInfo) (z : Value) (ht : P.underlying t = some (.slice e)) (hi : P.info? e = some i) (hz : i.zero = some z) (hzs : z.cells.size = i.size) (hsz : 0 < i.size)
    {u : Value} {n : Nat} {xs : List Value} (hown : w.ownsRow 0 e i.size u n xs) {x : Value} {m : Nat} {news : List Value} (hs : Src P i.size tx x m news w) (hm : 0 < m)
    (h63 : n + m ≤ maxLen) (hbytes : (n + m) * i.bytes ≤ 140737488355328) :
    ∃ v' w' g, (Builtin.append_ #[t, tx] ty #[u, x]).run P w = .ok v' w' ∧ w'.ownsRow 0 e i.size v' (n + m) (xs ++ news) ∧ w.grownBy w' u.ownBlock ∧ v'.ownBlock = some g ∧ (u.ownBlock = some g ∨ g = w.heap.size) ∧
      (∀ b o, u.ownBlock = some b → o < n * i.size → w'.cell? ⟨b, o, none⟩ = w.cell? ⟨b, o, none⟩) ∧ ∀ j, j < (n + m) * i.size → w'.cell? ⟨g, j, none⟩ = (xs ++ news)[j]? := by
  have hsmall : n + m ≤ 9223372036854775807 := by simp only [maxLen] at h63; omega
  have hl := hs.newsLen
  have hlen : (xs ++ news).length = (n + m) * i.size := by rw [List.length_append, hown.1, hl, Nat.add_mul]
  have grown : ∀ (bs : Option Addr) (old : Nat), u = .slice bs n old → old < n + m → (Builtin.firstCells i.size n (.slice bs n old)).run P w.drew = .ok xs.toArray w.drew →
      ∃ v' w' g, (Builtin.append_ #[t, tx] ty #[u, x]).run P w = .ok v' w' ∧ w'.ownsRow 0 e i.size v' (n + m) (xs ++ news) ∧ w.grownBy w' u.ownBlock ∧ v'.ownBlock = some g ∧ (u.ownBlock = some g ∨ g = w.heap.size) ∧
      (∀ b o, u.ownBlock = some b → o < n * i.size → w'.cell? ⟨b, o, none⟩ = w.cell? ⟨b, o, none⟩) ∧ ∀ j, j < (n + m) * i.size → w'.cell? ⟨g, j, none⟩ = (xs ++ news)[j]? := by
    intro bs old hu ho hold
    have hge := grownCap_ge w (n + m) old e
    have hcm : grownCap w (n + m) old e ≤ maxLen := grownCap_le_maxLen w (n + m) old e h63
    have hrun := run_append_grow_src (P := P) w t tx ty e i z ht hi hz bs n old xs hold x m news hs ho (by omega) (growslice_fits ho hbytes)
    rw [← hu] at hrun
    refine ⟨_, _, w.heap.size, hrun, ⟨hlen, .inr ⟨w.heap.size, _, _, rfl, Nat.zero_le _, heap_alloc_new w.drew _, hge, hcm, ?_, ?_⟩⟩, ⟨rfl, rfl, rfl, by simp, fun k hk _ => Below.heap_alloc w.drew _ k hk⟩, rfl, .inr rfl, fun b o hb _ => ?_, fun j hj => ?_⟩
    · simp only [Array.size_append, List.size_toArray, size_zeroCells, hzs, hlen, ← Nat.add_mul]
      congr 1
      omega
    · simp only [Array.toList_append]
      rw [← hlen]
      exact List.take_left
    · exact World.cell?_of_block (a := ⟨b, o, none⟩) (Below.heap_alloc w.drew _ b (hown.lt b hb).2)
    · have e1 : (w.drew.alloc (.cells ((xs ++ news).toArray ++ Builtin.zeroCells z.cells (grownCap w (n + m) old e - (n + m))) e)).cell? ⟨w.heap.size, j, none⟩ = _ := World.cell?_alloc_new w.drew _ _ j
      rw [e1, Array.getElem?_append_left (by simp only [List.size_toArray]; rw [hlen]; exact hj), List.getElem?_toArray]
  rcases hown.2 with ⟨rfl, rfl⟩ | ⟨g, cap, cur, rfl, hbg, hg, hnc, hcm, hcs, htake⟩
  · have hx : xs = [] := List.eq_nil_of_length_eq_zero (by simpa using hown.1)
    subst hx
    exact grown none 0 rfl (by omega) (run_firstCells_none w.drew i.size 0 0 0)
  · by_cases hroom : n + m ≤ cap
    · have hfit : n * i.size + news.length ≤ cur.size := by rw [hl, hcs, ← Nat.add_mul]; exact Nat.mul_le_mul_right _ hroom
      have hxl := hown.1
      refine ⟨_, _, g, run_append_room_row t tx ty e i ht hi g n cap cur e hg x m news hs hroom hfit, ⟨hlen, .inr ⟨g, cap, _, rfl, hbg, setRow_heap w g cur _ e _ hg, hroom, hcm, ?_, ?_⟩⟩, ⟨rfl, rfl, rfl, by simp, fun k _ hk => setRow_other w g k _ (fun e => hk (by simp [Value.ownBlock, e]))⟩, rfl, .inl rfl, fun b o hb ho => ?_, fun j hj => ?_⟩
      · simp only [List.size_toArray, List.length_append, List.length_take, List.length_drop, Array.length_toList]
        omega
      · rw [htake, ← hlen]
        exact List.take_left
      · simp [Value.ownBlock] at hb
        subst hb
        rw [cell_setRow_same w g o cur _ e (0, 0) hg, cell_row hg, List.getElem?_toArray, List.append_assoc, List.getElem?_append_left (by simp only [List.length_take, Array.length_toList]; omega), List.getElem?_take_of_lt ho, Array.getElem?_toList]
      · rw [cell_setRow_same w g j cur _ e (0, 0) hg, List.getElem?_toArray, List.getElem?_append_left (by simp only [List.length_append, List.length_take, Array.length_toList]; rw [hl]; rw [Nat.add_mul] at hj; omega), htake]
    · have holds : ∀ j u, xs[j]? = some u → w.drew.cell? ((⟨g, 0, none⟩ : Addr).add j) = some u := hown.cells (g := g) rfl
      exact grown (some ⟨g, 0, none⟩) cap rfl (by omega) (run_firstCells_some w.drew i.size n ⟨g, 0, none⟩ n cap xs hown.1 holds)
/-! ### Sources of append -/
def srcD (P : Program) (tx : TypeId) (sz : Nat) : D → Option (List D)
  | .sl _ sz' ys => match P.underlying tx with | some (.slice _) => if sz' = sz then some ys else none | _ => none
  | .raw (.slice none 0 _) => match P.underlying tx with | some (.slice _) => some [] | _ => none
  | .raw (.string s) => match P.underlying tx with | some .string => if sz = 1 then some (s.data.toList.map fun b => .raw (.int .u8 b.toNat)) else none | _ => none
  | _ => none
theorem RdE.cells_ex {sz : Nat} : ∀ {ds : List D} {f : Nat → Option Value}, RdE C w sz ds f → ∃ us : List Value, us.length = ds.length * sz ∧ (∀ j, j < ds.length * sz → f j = us[j]?) ∧ ∀ c ∈ us, c.oneCell' = true
  | [], _, _ => ⟨[], by simp, fun j hj => by simp at hj, fun c hc => by cases hc⟩
  | d :: ds, f, ⟨⟨u, h1, h2, ho, h3⟩, r⟩ => by
    obtain ⟨us, k1, k2, k3⟩ := r.cells_ex
    refine ⟨u.cells.toList ++ us, by simp [h2, k1, Nat.add_mul]; omega, fun j hj => ?_, fun c hc => ?_⟩
    rotate_left
    · rcases List.mem_append.1 hc with hc | hc
      · exact ho c hc
      · exact k3 c hc
    rw [List.length_cons, Nat.add_mul, Nat.one_mul] at hj
    by_cases hlt : j < sz
    · rw [List.getElem?_append_left (by simpa [h2] using hlt), h3 j (by omega)]
      simp [h2, hlt]
    · rw [List.getElem?_append_right (by simp [h2]; omega)]
      have := k2 (j - sz) (by omega)
      simp only [Array.length_toList, h2]
      rw [← this]
      congr 1
      omega
theorem RdE.app {sz : Nat} {ds es : List D} {f g : Nat → Option Value} (h : RdE C w sz ds f) (k : RdE C w sz es g) {F : Nat → Option Value} (h1 : ∀ j, j < ds.length * sz → F j = f j) (h2 : ∀ j, j < es.length * sz → F (ds.length * sz + j) = g j) : RdE C w sz (ds ++ es) F := by
  refine RdE.mk fun i d e => ?_
  by_cases hi : i < ds.length
  · rw [List.getElem?_append_left hi] at e
    obtain ⟨u, k1, k2, ko, k3⟩ := h.get e
    refine ⟨u, k1, k2, ko, fun j hj => ?_⟩
    rw [h1 _ (by
      have : (i + 1) * sz ≤ ds.length * sz := Nat.mul_le_mul_right _ hi
      rw [Nat.add_mul, Nat.one_mul] at this
      omega)]
    exact k3 j hj
  · rw [List.getElem?_append_right (by omega)] at e
    obtain ⟨hlt, _⟩ := List.getElem?_eq_some_iff.1 e
    obtain ⟨u, k1, k2, ko, k3⟩ := k.get e
    refine ⟨u, k1, k2, ko, fun j hj => ?_⟩
    have e1 : i * sz + j = ds.length * sz + ((i - ds.length) * sz + j) := by
      rw [← Nat.add_assoc, ← Nat.add_mul]
      congr 2
      omega
    rw [e1, h2 _ (by
      have : (i - ds.length + 1) * sz ≤ es.length * sz := Nat.mul_le_mul_right _ hlt
      rw [Nat.add_mul, Nat.one_mul] at this
      omega)]
    exact k3 j hj
theorem RdE.congr {sz : Nat} {ds : List D} {f g : Nat → Option Value} (h : RdE C w sz ds f) (e : ∀ j, j < ds.length * sz → g j = f j) : RdE C w sz ds g := by
  have := RdE.app h (es := []) (g := fun _ => none) trivial (F := g) e (fun j hj => by simp at hj)
  simpa using this
theorem srcD_sound {tx : TypeId} {sz : Nat} {x : D} {xv : Value} {ys : List D} (hx : Rd C w x xv) (e : srcD P tx sz x = some ys) :
    ∃ news, Src P sz tx xv ys.length news w ∧ RdE C w sz ys (fun j => news[j]?) := by
  unfold srcD at e
  split at e
  · rename_i tag sz' zs
    split at e
    · rename_i e' hu
      split at e
      · rename_i hsz
        cases e
        subst hsz
        obtain ⟨⟨a, cap, hv, _, _⟩, hx2, _⟩ := hx
        by_cases h0 : 0 < ys.length
        · obtain ⟨b, off, cap, rfl, hs, hr⟩ := hx2 h0
          obtain ⟨us, k1, k2, k3⟩ := hr.cells_ex
          have hr' : RdE C w sz' ys (fun j => us[j]?) := hr.congr fun j hj => (k2 j hj).symm
          refine ⟨us, Src.ofSlice w hu _ _ _ us k1 (fun j u hj => ?_) k3, hr'⟩
          obtain ⟨hlt, _⟩ := List.getElem?_eq_some_iff.1 hj
          rw [Addr.add_mid, ← hj]
          exact k2 j (by omega)
        · have hys : ys = [] := List.eq_nil_of_length_eq_zero (by omega)
          subst hys
          refine ⟨[], ?_, trivial⟩
          subst hv
          cases a with
          | none => exact Src.ofNil w hu cap
          | some a => exact Src.ofSlice w hu a 0 cap [] (by simp) (fun j u hj => by simp at hj) (fun u hu => by cases hu)
      · cases e
    · cases e
  · rename_i cap
    split at e
    · rename_i e' hu
      cases e
      simp only [Rd] at hx
      subst hx
      exact ⟨[], Src.ofNil w hu cap, trivial⟩
    · cases e
  · rename_i s
    split at e
    · rename_i hu
      split at e
      · rename_i hsz
        cases e
        subst hsz
        simp only [Rd] at hx
        subst hx
        refine ⟨byteCells s, ?_, ?_⟩
        · have hl : (s.data.toList.map fun b => D.raw (.int .u8 b.toNat)).length = s.size := by
            rw [List.length_map, Array.length_toList]
            rfl
          rw [hl]
          exact Src.ofString w hu s
        · refine RdE.mk fun i d e => ?_
          rw [List.getElem?_map, Option.map_eq_some_iff] at e
          obtain ⟨b, hb, rfl⟩ := e
          refine ⟨.int .u8 b.toNat, rfl, rfl, fun c hc => (by simp [Value.cells] at hc; subst hc; rfl), fun j hj => ?_⟩
          have : j = 0 := by simp [Value.cells] at hj; omega
          subst this
          simp [byteCells, Value.cells, hb]
      · cases e
    · cases e
  · cases e
end
end Go.Proofs.Ytbfmaicoefefaaa.Pv
/-! ## Part 6 -/
namespace Go.Proofs.Ytbfmaicoefefaaa.Pv
open Go Go.RowKit
section
variable {P : Program} {C : Cx} {h : H} {w : World}
def roomy (n b : Nat) : Bool := decide (n ≤ 140737488355328) && decide (n * b ≤ 140737488355328)
theorem roomy_some {n b : Nat} (e : roomy n b = true) : n ≤ maxLen ∧ n * b ≤ 140737488355328 := by
  simp only [roomy, Bool.and_eq_true, decide_eq_true_eq] at e
  exact ⟨by unfold maxLen; omega, e.2⟩
def appendD (P : Program) (h : H) (t tx : TypeId) (s x : D) : Option (D × H) :=
  match elemP P t with
  | some (e, inf) =>
    match srcD P tx inf.size x with
    | some ys =>
      if 0 < inf.size ∧ inf.zero.map (·.cells.size) = some inf.size then
        match s with
        | .raw (.slice none 0 0) => if roomy ys.length inf.bytes = true then some (.sl (some h.length) inf.size ys, h ++ [.log e inf.size ys.length]) else none
        | .sl (some id) sz ds =>
          match h[id]? with
          | some (.log e' sz' n) => if e' = e ∧ sz' = inf.size ∧ sz = inf.size ∧ n = ds.length ∧ roomy (ds.length + ys.length) inf.bytes = true then some (.sl (some id) inf.size (ds ++ ys), h.set id (.log e inf.size (ds.length + ys.length))) else none
          | _ => none
        | _ => none
      else none
    | none => none
  | none => none
theorem append_log (s : Sim C h w) {id e n : Nat} {i : TypeInfo} {z : Value} {t tx ty : TypeId} (he : h[id]? = some (.log e i.size n)) (ht : P.underlying t = some (.slice e)) (hi : P.info? e = some i) (hz : i.zero = some z) (hzs : z.cells.size = i.size) (hsz : 0 < i.size)
    {u : Value} {ds ys : List D} (hu : C.lg id = some u) (hds : Rd C w (.sl (some id) i.size ds) u) (hdn : n = ds.length) {x : Value} {news : List Value} (hs : Src P i.size tx x ys.length news w) (hys : RdE C w i.size ys (fun j => news[j]?)) (hro : roomy (ds.length + ys.length) i.bytes = true) :
    ∃ v C' w', (Builtin.append_ #[t, tx] ty #[u, x]).run P w = .ok v w' ∧ Fw C w C' w' ∧ Sim C' (h.set id (.log e i.size (ds.length + ys.length))) w' ∧ Rd C' w' (.sl (some id) i.size (ds ++ ys)) v := by
  obtain ⟨r1, r2⟩ := roomy_some hro
  subst hdn
  obtain ⟨u', xs, hu', ho, hS0⟩ := s.log id e i.size _ he
  rw [hu] at hu'
  cases hu'
  by_cases hm : 0 < ys.length
  · have hds' : RdE C w i.size ds (fun j => xs[j]?) := by
      by_cases h0 : 0 < ds.length
      · obtain ⟨_, hd2, _⟩ := hds
        obtain ⟨b, off, cap, rfl, _, hr⟩ := hd2 h0
        have hc := ho.cells (g := b) rfl
        rcases ho.2 with ⟨h3, _⟩ | ⟨g, cap', cur, h3, _⟩
        · cases h3
        · simp at h3
          obtain ⟨⟨rfl, rfl⟩, rfl⟩ := h3
          refine hr.congr fun j hj => ?_
          have hlt : j < xs.length := by rw [ho.1]; exact hj
          have := hc j _ (List.getElem?_eq_getElem hlt)
          rw [Addr.add_mid] at this
          rw [this, List.getElem?_eq_getElem hlt]
      · have : ds = [] := List.eq_nil_of_length_eq_zero (by omega)
        subst this
        trivial
    obtain ⟨v, w', g, k1, k2, k3, k4, k5, k6, k7⟩ := run_append_src (P := P) t tx ty e i z ht hi hz hzs hsz ho hs hm r1 r2
    obtain ⟨C', f, s', hl, hS⟩ := s.log_turn he hu ho hS0 hm k2 k3 k4 k5 k6
    refine ⟨v, C', w', k1, f, s', ?_, fun _ => ?_, fun id' e' => ?_⟩
    · obtain ⟨a, cap, rfl, h1, h2⟩ := ownsRow_form k2
      exact ⟨a, cap, by rw [List.length_append], by rw [List.length_append]; exact h1, h2⟩
    · obtain ⟨a, cap, rfl, h1, h2⟩ := ownsRow_form k2
      have hform : ∃ c, Value.slice a (ds.length + ys.length) cap = .slice (some ⟨g, 0, none⟩) (ds.length + ys.length) c := by
        rcases k2.2 with ⟨h3, _⟩ | ⟨g', cap', cur, h3, _⟩
        · rw [h3] at k4; simp [Value.ownBlock] at k4
        · rw [h3] at k4
          simp [Value.ownBlock] at k4
          subst k4
          exact ⟨cap', h3⟩
      obtain ⟨c, hform⟩ := hform
      refine ⟨g, 0, c, by rw [List.length_append]; exact hform, fun j hj => ?_, ?_⟩
      · rw [Nat.zero_add]
        exact hS j (by rw [List.length_append] at hj; exact hj)
      · refine RdE.app (RdE.mono f.toEv i.size ds _ _ hds' fun _ _ => rfl) (RdE.mono f.toEv i.size ys _ _ hys fun _ _ => rfl) (fun j hj => ?_) (fun j hj => ?_)
        · simp only [Nat.zero_add]
          rw [k7 j (by rw [Nat.add_mul]; omega), List.getElem?_append_left (by rw [ho.1]; exact hj)]
        · simp only [Nat.zero_add]
          rw [k7 _ (by rw [Nat.add_mul]; omega), List.getElem?_append_right (by rw [ho.1]; omega), ho.1]
          congr 1
          omega
    · cases e'
      exact ⟨v, hl, by rw [ownsRow_len k2, List.length_append]; exact Nat.le_refl _, fun _ => rfl⟩
  · have hy : ys = [] := List.eq_nil_of_length_eq_zero (by omega)
    subst hy
    have hnews : news = [] := List.eq_nil_of_length_eq_zero (by have := hs.newsLen; simpa using this)
    subst hnews
    obtain ⟨a, cap, rfl, h1, h2⟩ := ownsRow_form ho
    have hset : h.set id (.log e i.size (ds.length + ([] : List D).length)) = h := by
      have hlt := (List.getElem?_eq_some_iff.1 he).1
      apply List.ext_getElem?
      intro j
      rw [List.getElem?_set]
      by_cases hj : id = j
      · subst hj
        simp [hlt]
        exact ((List.getElem?_eq_some_iff.1 he).2).symm
      · simp [hj]
    rw [hset, List.append_nil]
    exact ⟨_, C, w, run_append_nothing (P := P) w t tx ty e i ht hi a _ cap h1 x hs, Fw.refl _ _, s, hds⟩
theorem appendD_sound (s : Sim C h w) {t tx ty : TypeId} {sd x d : D} {sv xv : Value} {h' : H} (hsd : Rd C w sd sv) (hx : Rd C w x xv) (e : appendD P h t tx sd x = some (d, h')) :
    ∃ v C' w', (Builtin.append_ #[t, tx] ty #[sv, xv]).run P w = .ok v w' ∧ Fw C w C' w' ∧ Sim C' h' w' ∧ Rd C' w' d v := by
  unfold appendD at e
  split at e
  · rename_i el inf hel
    obtain ⟨h1, h2⟩ := elemP_some hel
    split at e
    · rename_i ys hsrc
      split at e
      · rename_i hc
        obtain ⟨hsz, hz'⟩ := hc
        rw [Option.map_eq_some_iff] at hz'
        obtain ⟨z, hz, hzs⟩ := hz'
        obtain ⟨news, k1, k2⟩ := srcD_sound hx hsrc
        split at e
        · split at e
          · rename_i hro
            cases e
            simp only [Rd] at hsd
            subst hsd
            obtain ⟨C1, f1, s1, hl⟩ := s.log_nil el inf.size
            obtain ⟨v, C', w', j1, j2, j3, j4⟩ := append_log (P := P) (tx := tx) (ty := ty) s1 (id := h.length) (n := 0) (i := inf) (by simp) h1 h2 hz hzs hsz hl (ds := []) (ys := ys) ⟨⟨none, 0, rfl, Nat.le_refl _, by unfold maxLen; omega⟩, fun h => absurd h (Nat.lt_irrefl _), fun id e => by cases e; exact ⟨_, hl, Nat.zero_le _, fun _ => rfl⟩⟩ rfl k1 (RdE.mono f1.toEv _ _ _ _ k2 fun _ _ => rfl) (by simpa using hro)
            refine ⟨v, C', w', j1, f1.trans j2, ?_, j4⟩
            simpa using j3
          · cases e
        · rename_i id sz ds
          split at e
          · rename_i e' sz' n hid
            split at e
            · rename_i hc2
              obtain ⟨rfl, rfl, rfl, rfl, hro⟩ := hc2
              cases e
              obtain ⟨u, xs, hu, ho, _⟩ := s.log id _ _ _ hid
              have hsd' := hsd
              obtain ⟨_, _, htag⟩ := hsd
              obtain ⟨u', hu', _, heq⟩ := htag id rfl
              rw [hu] at hu'
              cases hu'
              have hv := heq (ownsRow_len ho).symm
              subst hv
              exact append_log (P := P) s hid h1 h2 hz hzs hsz hu hsd' rfl k1 k2 hro
            · cases e
          · cases e
        · cases e
      · cases e
    · cases e
  · cases e
/-! ### slices, len -/
def boundD (x : Option D) (dflt : Nat) : Option Nat :=
  match x with
  | none => some dflt
  | some (.raw (.int _ n)) => if 0 ≤ n then some n.toNat else none
  | _ => none
def sliceD (P : Program) (t : TypeId) (x : D) (lo hi : Option D) : Option D :=
  match elemP P t, x with
  | some (_, inf), .sl _ sz ds =>
    match boundD lo 0, boundD hi ds.length with
    | some l, some k => if l ≤ k ∧ k ≤ ds.length ∧ inf.size = sz then some (.sl none sz ((ds.take k).drop l)) else none
    | _, _ => none
  | some (_, inf), .ms id off n =>
    match boundD lo 0, boundD hi n with
    | some l, some k => if l ≤ k ∧ k ≤ n then (if l = k then some (.sl none inf.size []) else some (.ms id (off + l * inf.size) (k - l))) else none
    | _, _ => none
  | _, _ => none
theorem boundD_sound {x : Option D} {dflt n : Nat} {xv : Option Value} (hx : match x, xv with | some d, some v => Rd C w d v | none, none => True | _, _ => False) (e : boundD x dflt = some n) :
    (xv = none ∧ n = dflt) ∨ ∃ k, xv = some (.int k n) := by
  unfold boundD at e
  split at e
  · cases e
    cases xv with
    | none => exact .inl ⟨rfl, rfl⟩
    | some v => exact hx.elim
  · rename_i k m
    split at e
    · rename_i h0
      cases e
      cases xv with
      | none => exact hx.elim
      | some v =>
        simp only [Rd] at hx
        subst hx
        exact .inr ⟨k, by rw [Int.toNat_of_nonneg h0]⟩
    · cases e
  · cases e
theorem sliceD_sound {t : TypeId} {x d : D} {xv : Value} {lo hi : Option D} {lov hiv : Option Value} (hx : Rd C w x xv) (hl : match lo, lov with | some d, some v => Rd C w d v | none, none => True | _, _ => False)
    (hh : match hi, hiv with | some d, some v => Rd C w d v | none, none => True | _, _ => False) (e : sliceD P t x lo hi = some d) : ∃ v, (Instr.sliceAt t xv lov hiv none).run P w = .ok v w ∧ Rd C w d v := by
  unfold sliceD at e
  split at e
  · rename_i _ _ el inf tag sz ds hel
    obtain ⟨h1, h2⟩ := elemP_some hel
    split at e
    · rename_i l k hbl hbk
      split at e
      · rename_i hc
        obtain ⟨hlk, hkd, hsz⟩ := hc
        cases e
        have hx0 := hx
        obtain ⟨⟨a, cap, rfl, hcap, hmax⟩, hx2, _⟩ := hx
        have hrun : (Instr.sliceAt t (.slice a ds.length cap) lov hiv none).run P w = .ok (.slice (if cap = l then a else a.map (·.add (l * sz))) (k - l) (cap - l)) w := by
          have kk : ∀ (i : Nat), k ≤ cap := fun _ => Nat.le_trans hkd hcap
          have kk' := kk 0
          rcases boundD_sound hl hbl with ⟨rfl, rfl⟩ | ⟨kl, rfl⟩ <;> rcases boundD_sound hh hbk with ⟨rfl, rfl⟩ | ⟨kh, rfl⟩ <;>
            simp [Instr.sliceAt, Instr.slice, run_underlying h1, Instr.sliceBounds, Instr.sliceBound, asIntOf, sizeOf, typeInfo, h2, hsz, hlk, hkd, kk']
        have hlen : ((ds.take k).drop l).length = k - l := by simp; omega
        refine ⟨_, hrun, ⟨_, _, by rw [hlen], by rw [hlen]; omega, by omega⟩, fun h0 => ?_, fun id e => by cases e⟩
        rw [hlen] at h0 ⊢
        obtain ⟨b, off, cap', hv, hs, hr⟩ := hx2 (by omega)
        simp at hv
        obtain ⟨rfl, rfl⟩ := hv
        have hne : ¬ cap = l := by omega
        refine ⟨b, off + l * sz, cap - l, by simp [hne, Addr.add_mid], fun i hi => ?_, RdE.mk fun i d hd => ?_⟩
        · rw [Nat.add_assoc]
          refine hs _ ?_
          have h3 : k * sz ≤ ds.length * sz := Nat.mul_le_mul_right _ hkd
          have h4 : l * sz + (k - l) * sz = k * sz := by rw [← Nat.add_mul]; congr 1; omega
          omega
        · have hik : i < k - l := by
            have := (List.getElem?_eq_some_iff.1 hd).1
            omega
          rw [List.getElem?_drop, List.getElem?_take_of_lt (by omega)] at hd
          obtain ⟨u, k1, k2, k3, k4⟩ := hr.get hd
          refine ⟨u, k1, k2, k3, fun j hj => ?_⟩
          rw [← k4 j hj]
          simp only [Nat.add_mul]
          congr 2
          omega
      · cases e
    · cases e
  · rename_i _ _ el inf id off n hel
    obtain ⟨h1, h2⟩ := elemP_some hel
    split at e
    · rename_i l k hbl hbk
      split at e
      · rename_i hc
        obtain ⟨hlk, hkd⟩ := hc
        obtain ⟨b, cap, hb, rfl, hcap, hmax⟩ := hx
        have hrun : (Instr.sliceAt t (.slice (some ⟨b, off, none⟩) n cap) lov hiv none).run P w = .ok (.slice (if cap = l then some ⟨b, off, none⟩ else some ⟨b, off + l * inf.size, none⟩) (k - l) (cap - l)) w := by
          have kk' : k ≤ cap := Nat.le_trans hkd hcap
          rcases boundD_sound hl hbl with ⟨rfl, rfl⟩ | ⟨kl, rfl⟩ <;> rcases boundD_sound hh hbk with ⟨rfl, rfl⟩ | ⟨kh, rfl⟩ <;>
            simp [Instr.sliceAt, Instr.slice, run_underlying h1, Instr.sliceBounds, Instr.sliceBound, asIntOf, sizeOf, typeInfo, h2, hlk, hkd, kk', Addr.add_mid]
        split at e
        · rename_i hlk'
          cases e
          exact ⟨_, hrun, ⟨_, _, by rw [hlk', Nat.sub_self]; rfl, Nat.zero_le _, by omega⟩, fun h0 => absurd h0 (Nat.lt_irrefl _), fun id e => by cases e⟩
        · cases e
          have hne : ¬ cap = l := by omega
          rw [if_neg hne] at hrun
          exact ⟨_, hrun, b, cap - l, hb, rfl, by omega, by omega⟩
      · cases e
    · cases e
  · cases e
def lenD (P : Program) (t : TypeId) (x : D) : Option D :=
  match P.underlying t, x with
  | some (.slice _), .sl _ _ ds => some (.raw (.int .i64 ds.length))
  | some (.slice _), .ms _ _ n => some (.raw (.int .i64 n))
  | some (.slice _), .sln n => some (.raw (.int .i64 n))
  | _, _ => none
theorem lenD_sound {t ty : TypeId} {x d : D} {xv : Value} (hx : Rd C w x xv) (e : lenD P t x = some d) : ∃ v, (Builtin.len_ #[t] ty #[xv]).run P w = .ok v w ∧ Rd C w d v := by
  unfold lenD at e
  split at e
  · rename_i _ el tag sz ds hu
    cases e
    obtain ⟨⟨a, cap, rfl, _⟩, _⟩ := hx
    refine ⟨_, ?_, rfl⟩
    simp [Builtin.len_, run_underlying hu, goInt]
  · rename_i _ el id off n hu
    cases e
    obtain ⟨b, cap, _, rfl, _⟩ := hx
    refine ⟨_, ?_, rfl⟩
    simp [Builtin.len_, run_underlying hu, goInt]
  · rename_i _ el n hu
    cases e
    obtain ⟨a, cap, rfl⟩ := hx
    refine ⟨_, ?_, rfl⟩
    simp [Builtin.len_, run_underlying hu, goInt]
  · cases e
/-! ### parts: field, extract -/
theorem part_sound {t : TypeId} {ds : List D} {off : Nat} {d : D} (e : partD P t ds off = some d) {vs : List Value} (r : RdL C w ds vs) : ∃ v, (part t vs.toArray off).run P w = .ok v w ∧ Rd C w d v := by
  unfold partD at e
  split at e
  · rename_i sz ha
    obtain ⟨ds', i, h1, h2, h3, h4⟩ := aggP_some ha
    split at e
    · rename_i hle
      cases e
      refine ⟨.agg ((vs.drop off).take sz).toArray, ?_, _, rfl, (r.drop off).take sz⟩
      unfold part
      rw [Sem.run_bind, run_isAgg h1 w, h3]
      simp [sizeOf, typeInfo, h2, h4]
    · cases e
  · rename_i sz ha
    obtain ⟨ds', i, h1, h2, h3, h4⟩ := aggP_some ha
    obtain ⟨v, hv, hr⟩ := r.get e
    refine ⟨v, ?_, hr⟩
    unfold part
    rw [Sem.run_bind, run_isAgg h1 w, h3]
    simp [hv]
  · cases e
def fieldD (P : Program) (s : TypeId) (x : D) (f : Nat) : Option D :=
  match P.underlying s, x with
  | some (.struct fs), .agg ds => match fs[f]? with
    | some fl => partD P fl.type ds fl.offset
    | none => none
  | _, _ => none
theorem fieldD_sound {st : TypeId} {f : Nat} {x d : D} {xv : Value} (hx : Rd C w x xv) (e : fieldD P st x f = some d) : ∃ v, (Instr.field st xv f).run P w = .ok v w ∧ Rd C w d v := by
  unfold fieldD at e
  split at e
  · rename_i fs ds hu
    split at e
    · rename_i fl hf
      obtain ⟨vs, rfl, r⟩ := hx
      obtain ⟨v, h1, h2⟩ := part_sound (P := P) e r
      refine ⟨v, ?_, h2⟩
      simp [Instr.field, run_underlying hu, hf, asAgg, h1]
    · cases e
  · cases e
def extractD (x : D) (i : Nat) : Option D :=
  match x with
  | .tup ds => ds[i]?
  | _ => none
theorem extractD_sound {i : Nat} {x d : D} {xv : Value} (hx : Rd C w x xv) (e : extractD x i = some d) : ∃ v, (Instr.extract xv i).run P w = .ok v w ∧ Rd C w d v := by
  unfold extractD at e
  split at e
  · obtain ⟨vs, rfl, r⟩ := hx
    obtain ⟨v, h1, h2⟩ := r.get e
    exact ⟨v, by simp [Instr.extract, h1], h2⟩
  · cases e
/-! ### build -/
def afill (place : Nat → Option (Nat × Nat)) (cells : List D) : List (Nat × D) → Option (List D)
  | [] => some cells
  | (i, d) :: rest =>
    match place i, cellsD d with
    | some (off, size), some es => if es.length = size ∧ off + es.length ≤ cells.length then afill place (splice cells off es) rest else none
    | _, _ => none
theorem fold_splice (off : Nat) : ∀ (l : List Value) (k : Nat) (cs : Array Value), off + k + l.length ≤ cs.size → ((l.zipIdx k).foldl (fun cs (c, j) => cs.setIfInBounds (off + j) c) cs).toList = cs.toList.take (off + k) ++ l ++ cs.toList.drop (off + k + l.length)
  | [], k, cs, _ => by simp
  | v :: rest, k, cs, hl => by
    simp only [List.zipIdx_cons, List.foldl_cons]
    rw [fold_splice off rest (k + 1) _ (by simp at hl ⊢; omega)]
    have := list_seg_step cs.toList (off + k) v rest (by simp at hl ⊢; omega)
    simp only [Array.toList_setIfInBounds, List.length_cons]
    simpa [Nat.add_assoc] using this
theorem afill_sound {place : Nat → Option (Nat × Nat)} : ∀ {parts : List (Nat × D)} {pv : List (Nat × Value)} {cells cs : List D} {cv : Array Value}, afill place cells parts = some cs → RdL C w cells cv.toList →
    (∀ j : Nat, (parts[j]?).map (fun p : Nat × D => p.1) = (pv[j]?).map (fun p : Nat × Value => p.1)) → (∀ (j : Nat) (p : Nat × D) (q : Nat × Value), parts[j]? = some p → pv[j]? = some q → Rd C w p.2 q.2) → ∃ cv', Instr.fill place cv pv = some cv' ∧ RdL C w cs cv'.toList ∧ ((cells.all leafD = true ∧ ∀ p ∈ parts, ∀ es, cellsD p.2 = some es → es.all leafD = true) → cs.all leafD = true)
  | [], pv, cells, cs, cv, e, r, h1, _ => by
    have hp : pv = [] := by
      cases pv with
      | nil => rfl
      | cons p _ => have := h1 0; simp at this
    subst hp
    simp only [afill, Option.some.injEq] at e
    subst e
    exact ⟨cv, rfl, r, fun h => h.1⟩
  | (i, d) :: rest, pv, cells, cs, cv, e, r, h1, h2 => by
    cases pv with
    | nil => have := h1 0; simp at this
    | cons q qs =>
      obtain ⟨i', v⟩ := q
      have hi : i = i' := by have := h1 0; simpa using this
      subst hi
      have hd : Rd C w d v := h2 0 _ _ rfl rfl
      simp only [afill] at e
      split at e
      · rename_i off size es hp hc
        split at e
        · rename_i hcond
          obtain ⟨rfl, hle⟩ := hcond
          have hr := hd.cells hc
          have hl := hr.len
          have hcl := r.len
          simp only [Array.length_toList] at hl hcl
          have hfold := fold_splice off v.cells.toList 0 cv (by simp; omega)
          have hz : (v.cells.zipIdx.foldl (fun cs (c, j) => cs.setIfInBounds (off + j) c) cv).toList = splice cv.toList off v.cells.toList := by
            rw [← Array.foldl_toList, Array.toList_zipIdx]
            rw [hfold, splice_toArray]
          obtain ⟨cv', k1, k2, k3⟩ := afill_sound (cv := v.cells.zipIdx.foldl (fun cs (c, j) => cs.setIfInBounds (off + j) c) cv) (pv := qs) e (by rw [hz]; exact r.splice hr off) (fun j => by simpa using h1 (j + 1)) (fun j p q hp hq => h2 (j + 1) p q (by simpa using hp) (by simpa using hq))
          refine ⟨cv', ?_, k2, fun hall => k3 ⟨?_, fun p hp => hall.2 p (List.mem_cons_of_mem _ hp)⟩⟩
          · simp only [Instr.fill, hp]
            rw [if_neg (by simp; omega)]
            exact k1
          · have h4 := hall.2 (i, d) (List.mem_cons_self ..) es hc
            have h5 := hall.1
            rw [List.all_eq_true] at h4 h5 ⊢
            intro x hx
            simp only [splice, List.mem_append] at hx
            rcases hx with (hx | hx) | hx
            · exact h5 x (List.mem_of_mem_take hx)
            · exact h4 x hx
            · exact h5 x (List.mem_of_mem_drop hx)
        · cases e
      · cases e
end
end Go.Proofs.Ytbfmaicoefefaaa.Pv
/-! ## Part 7 -/
namespace Go.Proofs.Ytbfmaicoefefaaa.Pv
open Go Go.RowKit
section
variable {P : Program} {C : Cx} {h : H} {w : World}
def buildD (P : Program) (t : TypeId) (parts : List (Nat × D)) : Option D :=
  match P.info? t, P.underlying t with
  | some it, some (.array _ e) =>
    match it.zero, P.info? e with
    | some z, some ie => (afill (fun i => some (i * ie.size, ie.size)) (z.cells.toList.map D.raw) parts).map D.agg
    | _, _ => none
  | some it, some (.struct fields) =>
    match it.zero, fields.toList.mapM (fun f => (P.info? f.type).map fun i => (f.offset, i.size)) with
    | some z, some places => (afill (places.toArray[·]?) (z.cells.toList.map D.raw) parts).map D.agg
    | _, _ => none
  | _, _ => none
def PartsRd (C : Cx) (w : World) (parts : List (Nat × D)) (pv : List (Nat × Value)) : Prop :=
  (∀ j : Nat, (parts[j]?).map (fun p : Nat × D => p.1) = (pv[j]?).map (fun p : Nat × Value => p.1)) ∧ ∀ (j : Nat) (p : Nat × D) (q : Nat × Value), parts[j]? = some p → pv[j]? = some q → Rd C w p.2 q.2
theorem buildD_sound {t : TypeId} {parts : List (Nat × D)} {pv : Array (Nat × Value)} {d : D} (hp : PartsRd C w parts pv.toList) (e : buildD P t parts = some d) : ∃ v, (Instr.build t pv).run P w = .ok v w ∧ Rd C w d v := by
  unfold buildD at e
  split at e
  · rename_i it n el h1 h2
    split at e
    · rename_i z ie h3 h4
      rw [Option.map_eq_some_iff] at e
      obtain ⟨cs, hc, rfl⟩ := e
      obtain ⟨cv, k1, k2, _⟩ := afill_sound (cv := z.cells) hc (RdL.raws C w _) hp.1 hp.2
      refine ⟨_, run_build w t pv cv ?_, cv.toList, by simp, k2⟩
      simp only [Program.built, h1, h2, h3, h4]
      exact k1
    · cases e
  · rename_i it fields h1 h2
    split at e
    · rename_i z places h3 h4
      rw [Option.map_eq_some_iff] at e
      obtain ⟨cs, hc, rfl⟩ := e
      obtain ⟨cv, k1, k2, _⟩ := afill_sound (cv := z.cells) hc (RdL.raws C w _) hp.1 hp.2
      refine ⟨_, run_build w t pv cv ?_, cv.toList, by simp, k2⟩
      simp only [Program.built, h1, h2, h3, h4]
      exact k1
    · cases e
  · cases e
/-! ### buildSlice -/
def elemsD (P : Program) (e : TypeId) (sz : Nat) (cs : List D) : Nat → Option (List D)
  | 0 => some []
  | n + 1 => match elemsD P e sz cs n, partD P e cs (n * sz) with
    | some l, some d => some (l ++ [d])
    | _, _ => none
def rowZero (P : Program) (e : TypeId) (n sz : Nat) : Option (List Value) :=
  if n * sz = 0 then some [] else match P.info? e with
    | some i => match i.zero with
      | some z => if z.cells.all (·.oneCell') = true then some ((List.range (n * sz)).map (fun k => z.cells[k % z.cells.size]!)) else none
      | none => none
    | none => none
def buildRow (P : Program) (t : TypeId) (n : Nat) (parts : List (Nat × D)) : Option (TypeId × Nat × List D) :=
  match elemP P t with
  | some (e, inf) =>
    if 0 < inf.size ∧ n * inf.size ≤ 16777216 then
      match rowZero P e n inf.size with
      | some zs => match afill (fun i => some (i * inf.size, inf.size)) (zs.map D.raw) parts with
        | some cs => if cs.all leafD = true ∧ cs.length = n * inf.size then match elemsD P e inf.size cs n with
          | some l => some (e, inf.size, l)
          | none => none
          else none
        | none => none
      | none => none
    else none
  | none => none
theorem elemsD_get {e : TypeId} {sz : Nat} {cs : List D} : ∀ {n : Nat} {l : List D}, elemsD P e sz cs n = some l → l.length = n ∧ ∀ i, i < n → ∃ d, l[i]? = some d ∧ partD P e cs (i * sz) = some d
  | 0, l, h => by simp only [elemsD, Option.some.injEq] at h; subst h; exact ⟨rfl, fun i hi => absurd hi (Nat.not_lt_zero _)⟩
  | n + 1, l, h => by
    simp only [elemsD] at h
    split at h
    · rename_i l' d h1 h2
      cases h
      obtain ⟨k1, k2⟩ := elemsD_get h1
      refine ⟨by simp [k1], fun i hi => ?_⟩
      by_cases hin : i < n
      · obtain ⟨d', e1, e2⟩ := k2 i hin
        exact ⟨d', by rw [List.getElem?_append_left (by omega)]; exact e1, e2⟩
      · have : i = n := by omega
        subst this
        exact ⟨d, by rw [List.getElem?_append_right (by omega), k1]; simp, h2⟩
    · cases h
theorem partD_cells {t : TypeId} {ds : List D} {off : Nat} {d : D} {i : TypeInfo} (hi : P.info? t = some i) (e : partD P t ds off = some d) (hl : ds.all leafD = true) (h1 : ∀ dd, P.underlying t = some dd → dd.isRow = false → i.size = 1) {vs : List Value} (r : RdL C w ds vs) (hone : ∀ u ∈ vs, u.oneCell' = true) :
    ∃ u, Rd C w d u ∧ u.cells.size = i.size ∧ (∀ c ∈ u.cells.toList, c.oneCell' = true) ∧ ∀ j (hj : j < u.cells.size), vs[off + j]? = some u.cells[j] := by
  unfold partD at e
  split at e
  · rename_i sz ha
    obtain ⟨ds', i', k1, k2, k3, k4⟩ := aggP_some ha
    rw [hi] at k2
    cases k2
    split at e
    · rename_i hle
      cases e
      have hlen := r.len
      refine ⟨.agg ((vs.drop off).take sz).toArray, ⟨_, rfl, (r.drop off).take sz⟩, by simp [Value.cells, k4]; omega, fun c hc => ?_, fun j hj => ?_⟩
      · simp [Value.cells] at hc
        exact hone c (List.mem_of_mem_drop (List.mem_of_mem_take hc))
      · simp [Value.cells] at hj ⊢
    · cases e
  · rename_i sz ha
    obtain ⟨ds', i', k1, k2, k3, k4⟩ := aggP_some ha
    rw [hi] at k2
    cases k2
    obtain ⟨v, hv, hr⟩ := r.get e
    have hv1 := hone v (List.mem_of_getElem? hv)
    have hcells : v.cells = #[v] := by cases v <;> first | rfl | cases hv1
    refine ⟨v, hr, by rw [hcells, h1 ds' k1 k3]; rfl, fun c hc => ?_, fun j hj => ?_⟩
    · rw [hcells] at hc
      simp at hc
      subst hc
      exact hv1
    · have : j = 0 := by rw [hcells] at hj; simp at hj; omega
      subst this
      simp [hcells, hv]
  · cases e
theorem getElem!_all {z : Array Value} (hall : z.all (·.oneCell') = true) (k : Nat) : (z[k]!).oneCell' = true := by
  by_cases hk : k < z.size
  · rw [getElem!_pos z k hk]
    exact (Array.all_eq_true_iff_forall_mem.1 hall) _ (Array.getElem_mem hk)
  · rw [getElem!_neg z k hk]
    rfl
theorem rowZero_sound {e : TypeId} {n sz : Nat} {zs : List Value} (he : rowZero P e n sz = some zs) : (∀ u ∈ zs, u.oneCell' = true) ∧
    ((n * sz = 0 ∧ zs = []) ∨ (n * sz ≠ 0 ∧ ∃ i z, P.info? e = some i ∧ i.zero = some z ∧ zs.toArray = (Array.range (n * sz)).map (fun k => z.cells[k % z.cells.size]!))) := by
  unfold rowZero at he
  split at he
  · rename_i h0
    cases he
    exact ⟨fun u hu => (by cases hu), .inl ⟨h0, rfl⟩⟩
  · rename_i h0
    split at he
    · rename_i i hi
      split at he
      · rename_i z hz
        split at he
        · rename_i hall
          cases he
          refine ⟨fun u hu => ?_, .inr ⟨h0, i, z, hi, hz, ?_⟩⟩
          · obtain ⟨k, hk, rfl⟩ := List.mem_map.1 hu
            exact getElem!_all hall _
          · apply Array.ext'
            simp
        · cases he
      · cases he
    · cases he
theorem buildRow_core {t e : TypeId} {n sz : Nat} {parts : List (Nat × D)} {pv : Array (Nat × Value)} {l : List D} (hp : PartsRd C w parts pv.toList) (he : buildRow P t n parts = some (e, sz, l)) (h1 : ∀ i dd, P.info? e = some i → P.underlying e = some dd → dd.isRow = false → i.size = 1) :
    ∃ cv : Array Value, (Instr.buildSlice t n pv).run P w = .ok (.slice (some ⟨w.heap.size, 0, none⟩) n n) (w.alloc (.cells cv e)) ∧ cv.size = n * sz ∧ n ≤ maxLen ∧ l.length = n ∧ RdE C w sz l (fun j => cv[j]?) := by
  unfold buildRow at he
  split at he
  · rename_i el inf hel
    obtain ⟨hu, hi⟩ := elemP_some hel
    split at he
    · rename_i hcond
      obtain ⟨hpos, hbig⟩ := hcond
      split at he
      · rename_i zs hz
        split at he
        · rename_i cs hcs
          split at he
          · rename_i hall
            obtain ⟨hleaf, hlen⟩ := hall
            split at he
            · rename_i l' hl
              simp at he
              obtain ⟨rfl, rfl, rfl⟩ := he
              obtain ⟨hz2, hz1⟩ := rowZero_sound hz
              obtain ⟨cv, k1, k2, _⟩ := afill_sound (cv := zs.toArray) hcs (by simpa using RdL.raws C w zs) hp.1 hp.2
              obtain ⟨g1, g2⟩ := elemsD_get hl
              have hsz : cv.size = n * inf.size := by have := k2.len; simp at this; omega
              have hnm : n ≤ maxLen := by
                have : n ≤ n * inf.size := Nat.le_mul_of_pos_right _ hpos
                unfold maxLen
                omega
              have hone := k2.leaves hleaf
              refine ⟨cv, ?_, hsz, hnm, g1, ?_⟩
              · have hb : ¬ (n * inf.size > 2 ^ 24) := by omega
                simp only [Instr.buildSlice, Sem.run_bind, run_underlying hu, Result.andThen_ok, sizeOf, typeInfo, run_program, hi, Sem.run_pure]
                rw [if_neg hb]
                rcases hz1 with ⟨q1, rfl⟩ | ⟨q1, i, z, q2, q3, q4⟩
                · have e0 : (Array.map (fun x => (#[] : Array Value)[x % (#[] : Array Value).size]!) (Array.range (n * inf.size))) = ([] : List Value).toArray := by rw [q1]; simp
                  rw [if_pos q1]
                  simp only [Sem.run_bind, Sem.run_pure, Result.andThen_ok, e0, k1]
                  simp [newRow]
                · rw [hi] at q2
                  cases q2
                  rw [q4] at k1
                  rw [if_neg q1]
                  simp only [zeroValue, typeInfo, Sem.run_bind, run_program, Result.andThen_ok, hi, q3, Sem.run_pure, k1]
                  simp [newRow]
              · refine RdE.mk fun i d hd => ?_
                have hin : i < n := by
                  have := (List.getElem?_eq_some_iff.1 hd).1
                  omega
                obtain ⟨d', q1, q2⟩ := g2 i hin
                rw [hd] at q1
                cases q1
                obtain ⟨u, r1, r2, r3, r4⟩ := partD_cells hi q2 hleaf (fun dd => h1 inf dd hi) k2 (by simpa using hone)
                refine ⟨u, r1, r2, r3, fun j hj => ?_⟩
                have := r4 j hj
                rw [← this, Array.getElem?_toList]
            · cases he
          · cases he
        · cases he
      · cases he
    · cases he
  · cases he
theorem buildRow_sound (s : Sim C h w) {t e : TypeId} {n sz : Nat} {parts : List (Nat × D)} {pv : Array (Nat × Value)} {l : List D} (hp : PartsRd C w parts pv.toList) (he : buildRow P t n parts = some (e, sz, l)) (h1 : ∀ i dd, P.info? e = some i → P.underlying e = some dd → dd.isRow = false → i.size = 1) :
    ∃ v C' w', (Instr.buildSlice t n pv).run P w = .ok v w' ∧ Fw C w C' w' ∧ Sim C' (h ++ [.log e sz n]) w' ∧ Rd C' w' (.sl (some h.length) sz l) v ∧ l.length = n := by
  obtain ⟨cv, k1, hsz, hnm, g1, hr⟩ := buildRow_core hp he h1
  obtain ⟨C', f, s', hlg, hS, hcell⟩ := s.log_new e sz n cv hsz hnm
  refine ⟨.slice (some ⟨w.heap.size, 0, none⟩) n n, C', w.alloc (.cells cv e), k1, f, s', ?_, g1⟩
  refine ⟨⟨_, _, by rw [g1], by rw [g1]; exact Nat.le_refl _, hnm⟩, fun h0 => ⟨_, 0, n, by rw [g1], fun i hi' => by rw [Nat.zero_add]; exact hS i (by rw [← g1]; exact hi'), ?_⟩, fun id e => ?_⟩
  · refine RdE.mono f.toEv sz l _ _ hr fun i hi => ?_
    rw [Nat.zero_add]
    exact hcell i
  · cases e
    exact ⟨_, hlg, by rw [g1]; exact Nat.le_refl _, fun _ => rfl⟩
/-! ### bytes as a text -/
def numsD : List D → Option (List Int)
  | [] => some []
  | .raw (.int .u8 n) :: r => (numsD r).map (n :: ·)
  | _ => none
theorem numsD_get : ∀ {ds : List D} {ns : List Int}, numsD ds = some ns → ds.length = ns.length ∧ ∀ i, i < ns.length → ds[i]? = some (.raw (.int .u8 (ns.getD i 0)))
  | [], ns, e => by simp only [numsD, Option.some.injEq] at e; subst e; exact ⟨rfl, fun i hi => absurd hi (Nat.not_lt_zero _)⟩
  | d :: r, ns, e => by
    unfold numsD at e
    split at e
    · rename_i h; cases h
    · rename_i n r' heq
      cases heq
      rw [Option.map_eq_some_iff] at e
      obtain ⟨ns', h1, rfl⟩ := e
      obtain ⟨k1, k2⟩ := numsD_get h1
      refine ⟨by simp [k1], fun i hi => ?_⟩
      cases i with
      | zero => simp
      | succ i =>
        have := k2 i (by simpa using hi)
        simpa using this
    · cases e
def convD (P : Program) (src dst : TypeId) (x : D) : Option D :=
  match P.underlying src, P.underlying dst, x with
  | some (.slice e), some .string, .sl _ sz ds => match P.underlying e with
    | some (.int .u8) => if sz = 1 then (numsD ds).map fun ns => .raw (.string (strOfNums ns)) else none
    | _ => none
  | _, _, _ => none
theorem strOfNums_nil : strOfNums [] = ByteArray.empty := rfl
theorem convD_sound {src dst : TypeId} {x d : D} {xv : Value} (hx : Rd C w x xv) (e : convD P src dst x = some d) : ∃ v, (convert src dst xv).run P w = .ok v w ∧ Rd C w d v := by
  unfold convD at e
  split at e
  · rename_i _ _ _ el tag sz ds h1 h2
    split at e
    · rename_i h3
      split at e
      · rename_i hsz
        subst hsz
        rw [Option.map_eq_some_iff] at e
        obtain ⟨ns, hn, rfl⟩ := e
        obtain ⟨k1, k2⟩ := numsD_get hn
        obtain ⟨⟨a, cap, rfl, _⟩, hx2, _⟩ := hx
        refine ⟨_, ?_, rfl⟩
        by_cases h0 : 0 < ds.length
        · obtain ⟨b, off, cap', hv, _, hr⟩ := hx2 h0
          simp at hv
          obtain ⟨rfl, rfl⟩ := hv
          refine run_convert_bytes_arg w src el h1 h3 b off ds.length cap ns k1.symm (fun i hi => ?_) dst h2
          obtain ⟨u, r1, _, _, r4⟩ := hr.get (k2 i (by omega))
          simp only [Rd] at r1
          subst r1
          have := r4 0 (by simp [Value.cells])
          simpa [Value.cells] using this
        · have hd : ds = [] := List.eq_nil_of_length_eq_zero (by omega)
          subst hd
          have : ns = [] := List.eq_nil_of_length_eq_zero (by simpa using k1.symm)
          subst this
          cases a with
          | none => exact run_convert_bytes_nil w src el h1 h3 _ _ dst h2
          | some p =>
            have := run_convert_bytes_string (P := P) w src dst el (some p) 0 cap h1 h3 h2
            have h2' := run_bytesToString (P := P) w p 0 cap [] (by simp [loadCells, loadCellsFrom])
            rw [show ([] : List D).length = 0 from rfl, this, h2']
            rfl
      · cases e
    · cases e
  · cases e
end
end Go.Proofs.Ytbfmaicoefefaaa.Pv
/-! ## Part 8 -/
namespace Go.Proofs.Ytbfmaicoefefaaa.Pv
open Go Go.RowKit
/-! ### Data without boxes and logs -/
mutual
def pureD : D → Option D
  | .any => none
  | .raw v => some (.raw v)
  | .agg ds => (pureL ds).map D.agg
  | .tup ds => (pureL ds).map D.tup
  | .sl _ sz ds => (pureL ds).map (D.sl none sz)
  | .bx _ _ => none
  | .ms _ _ _ => none
  | .mp _ _ _ _ => none
  | .sln n => some (.sln n)
  | .pe d off => (pureD d).map (D.pe · off)
  | .fn f a b => match pureL a, pureL b with | some a', some b' => some (.fn f a' b') | _, _ => none
  | .ifc t d => (pureD d).map (D.ifc t)
def pureL : List D → Option (List D)
  | [] => some []
  | d :: ds => match pureD d, pureL ds with | some d', some ds' => some (d' :: ds') | _, _ => none
end
section
variable {P : Program}
theorem pureL_len : ∀ {ds es : List D}, pureL ds = some es → es.length = ds.length
  | [], _, e => by simp only [pureL, Option.some.injEq] at e; subst e; rfl
  | d :: ds, es, e => by
    simp only [pureL] at e
    split at e
    · rename_i d' ds' h1 h2
      cases e
      simp [pureL_len h2]
    · cases e
mutual
theorem pureD_rd {C C' : Cx} {w : World} (hS : ∀ b o, C.S b o → C'.S b o) : ∀ (d : D) {d' : D} {v : Value}, pureD d = some d' → Rd C w d v → Rd C' w d' v
  | .any, _, _, e, _ => by cases e
  | .raw _, _, _, e, h => by cases e; exact h
  | .agg ds, _, _, e, ⟨vs, hv, r⟩ => by
    simp only [pureD, Option.map_eq_some_iff] at e
    obtain ⟨es, h1, rfl⟩ := e
    exact ⟨vs, hv, pureL_rd hS ds h1 r⟩
  | .tup ds, _, _, e, ⟨vs, hv, r⟩ => by
    simp only [pureD, Option.map_eq_some_iff] at e
    obtain ⟨es, h1, rfl⟩ := e
    exact ⟨vs, hv, pureL_rd hS ds h1 r⟩
  | .sl tag sz ds, _, _, e, ⟨h1, h2, _⟩ => by
    simp only [pureD, Option.map_eq_some_iff] at e
    obtain ⟨es, h3, rfl⟩ := e
    have hl := pureL_len h3
    refine ⟨by rw [hl]; exact h1, fun hp => ?_, fun id e => by cases e⟩
    rw [hl] at hp ⊢
    obtain ⟨b, off, cap, k1, k2, k3⟩ := h2 hp
    exact ⟨b, off, cap, k1, fun i hi => hS _ _ (k2 i hi), pureE_rd hS sz ds h3 k3⟩
  | .bx _ _, _, _, e, _ => by cases e
  | .ms _ _ _, _, _, e, _ => by cases e
  | .mp _ _ _ _, _, _, e, _ => by cases e
  | .sln n, _, _, e, h => by cases e; exact h
  | .pe d off, _, _, e, ⟨b, o, u, hv, r, hc⟩ => by
    simp only [pureD, Option.map_eq_some_iff] at e
    obtain ⟨d', h1, rfl⟩ := e
    exact ⟨b, o, u, hv, pureD_rd hS d h1 r, fun i hi => ⟨hS _ _ (hc i hi).1, (hc i hi).2⟩⟩
  | .fn f a b, _, _, e, ⟨vs, us, hv, r1, r2⟩ => by
    simp only [pureD] at e
    split at e
    · rename_i a' b' h1 h2
      cases e
      exact ⟨vs, us, hv, pureL_rd hS a h1 r1, pureL_rd hS b h2 r2⟩
    · cases e
  | .ifc t d, _, _, e, ⟨u, hv, r⟩ => by
    simp only [pureD, Option.map_eq_some_iff] at e
    obtain ⟨d', h1, rfl⟩ := e
    exact ⟨u, hv, pureD_rd hS d h1 r⟩
theorem pureL_rd {C C' : Cx} {w : World} (hS : ∀ b o, C.S b o → C'.S b o) : ∀ (ds : List D) {es : List D} {vs : List Value}, pureL ds = some es → RdL C w ds vs → RdL C' w es vs
  | [], _, _, e, r => by simp only [pureL, Option.some.injEq] at e; subst e; exact r
  | d :: ds, _, _, e, ⟨v, rest, hv, r1, r2⟩ => by
    simp only [pureL] at e
    split at e
    · rename_i d' ds' h1 h2
      cases e
      exact ⟨v, rest, hv, pureD_rd hS d h1 r1, pureL_rd hS ds h2 r2⟩
    · cases e
theorem pureE_rd {C C' : Cx} {w : World} (hS : ∀ b o, C.S b o → C'.S b o) (sz : Nat) : ∀ (ds : List D) {es : List D} {f : Nat → Option Value}, pureL ds = some es → RdE C w sz ds f → RdE C' w sz es f
  | [], _, _, e, _ => by simp only [pureL, Option.some.injEq] at e; subst e; trivial
  | d :: ds, _, _, e, ⟨⟨u, r, h3, h4, h5⟩, r2⟩ => by
    simp only [pureL] at e
    split at e
    · rename_i d' ds' h1 h2
      cases e
      exact ⟨⟨u, pureD_rd hS d h1 r, h3, h4, h5⟩, pureE_rd hS sz ds h2 r2⟩
    · cases e
end
/-! ### Contracts -/
def bare (S : Nat → Nat → Prop) : Cx := ⟨S, fun _ => none, fun _ => none⟩
/-- A call that leaves all that was there, and yields a datum. -/
def Yd (P : Program) (k : FuncId) (ds : List D) (d : D) : Prop :=
  ∀ (S : Nat → Nat → Prop) (w : World) (args : List Value), Okay S w → RdL (bare S) w ds args →
    Calls P k args.toArray w fun e w' => ∃ (v : Value) (S' : Nat → Nat → Prop), e = .returned v ∧ Below w.heap.size w w' ∧ (∀ b o, S b o → S' b o) ∧ (∀ b o, S' b o → b < w'.heap.size ∧ (b < w.heap.size → S b o)) ∧ Rd (bare S') w' d v
def Callable (P : Program) (k : FuncId) : Prop := ∃ fn c, P.funcs[k]? = some fn ∧ (fn.name == "runtime.NumGoroutine") = false ∧ fn.body = some c
structure PureOk (P : Program) (penv : FuncId → List D → Option D) : Prop where
  can : ∀ k ds d, penv k ds = some d → Callable P k
  ok : ∀ k ds d, penv k ds = some d → Yd P k ds d
/-- A call that may turn the boxes. -/
def Ret (P : Program) (C : Cx) (w : World) (k : FuncId) (args : List Value) (d : D) (h' : H) : Prop :=
  Calls P k args.toArray w fun e w' => ∃ v C', e = .returned v ∧ Fw C w C' w' ∧ Sim C' h' w' ∧ Rd C' w' d v
structure CallOk (P : Program) (call : FuncId → List D → H → Option (D × H)) : Prop where
  can : ∀ k ds h d h', call k ds h = some (d, h') → Callable P k
  ok : ∀ k ds h d h', call k ds h = some (d, h') → ∀ C w args, Sim C h w → RdL C w ds args → Ret P C w k args d h'
theorem callable_run {k : FuncId} (hc : Callable P k) (args : Array Value) (w : World) : (callFunc k args).run P w = .ok (.enter k args) w := by
  obtain ⟨fn, c, h1, h2, h3⟩ := hc
  have h2' : ¬ fn.name = "runtime.NumGoroutine" := by simpa using h2
  simp [callFunc, h1, h2', h3]
/-- What a pure call leaves to the one who called it. -/
theorem Fw.pure {C : Cx} {h : H} {w w' : World} {S' : Nat → Nat → Prop} (s : Sim C h w) (hb : Below w.heap.size w w') (hS : ∀ b o, S' b o → b < w'.heap.size ∧ (b < w.heap.size → C.S b o)) :
    Fw C w { C with S := fun b o => C.S b o ∨ S' b o } w' ∧ Sim { C with S := fun b o => C.S b o ∨ S' b o } h w' := by
  have f : Fw C w { C with S := fun b o => C.S b o ∨ S' b o } w' := by
    refine ⟨⟨hb.os, hb.tape, hb.output, hb.size, fun _ _ h => .inl h, fun b o hs => hb.cell (p := ⟨b, o, none⟩) (s.S b o hs), fun _ _ h => h, fun _ u h => ⟨u, h, .inl rfl⟩⟩, fun b hlt _ => hb.block b hlt, fun id _ h _ => ⟨id, h⟩, fun b o hs hlt => ?_⟩
    rcases hs with hs | hs
    · exact .inl hs
    · exact .inl ((hS b o hs).2 hlt)
  refine ⟨f, ⟨s.S.mono f.toEv fun b o hs => ?_, fun id t ds e => ?_, fun id e sz n e' => ?_, fun id b hb' => Nat.lt_of_lt_of_le (s.lt id b hb') hb.size, s.idb, s.idl, s.inj, s.one, fun id b P e => ?_⟩⟩
  · rcases hs with hs | hs
    · exact Nat.lt_of_lt_of_le (s.S b o hs) hb.size
    · exact (hS b o hs).1
  · obtain ⟨b, vs, h1, h2, h3, h4, h5⟩ := s.box id t ds e
    have hlt := s.lt id b (.inl h1)
    refine ⟨b, vs, h1, (hb.block b hlt).trans h2, h3.mono f.toEv, h4, fun o hs => ?_⟩
    rcases hs with hs | hs
    · exact h5 o hs
    · exact h5 o ((hS b o hs).2 hlt)
  · obtain ⟨u, xs, h1, h2, h3⟩ := s.log id e sz n e'
    refine ⟨u, xs, h1, ?_, fun b o hu hs => ?_⟩
    · refine h2.kept (row := none) ⟨hb.os, hb.tape, hb.output, hb.size, fun k hk _ => hb.block k hk⟩ ?_
      cases u.ownBlock <;> simp
    · have hlt := s.lt id b (.inr ⟨u, h1, hu⟩)
      rcases hs with hs | hs
      · exact h3 b o hu hs
      · exact h3 b o hu ((hS b o hs).2 hlt)
  · obtain ⟨h1, ⟨x, h2, h3⟩, h4⟩ := s.keep id b P e
    have hlt := s.lt id b (.inl h1)
    refine ⟨h1, ⟨x, (hb.block b hlt).trans h2, h3⟩, fun o hs => ?_⟩
    rcases hs with hs | hs
    · exact h4 o hs
    · exact h4 o ((hS b o hs).2 hlt)
theorem PureOk.ret {penv : FuncId → List D → Option D} (hp : PureOk P penv) {C : Cx} {h : H} {w : World} (s : Sim C h w) {k : FuncId} {ds es : List D} {d : D} (e1 : pureL ds = some es) (e2 : penv k es = some d) (e3 : pureD d = some d) {args : List Value} (r : RdL C w ds args) :
    Calls P k args.toArray w fun e w' => ∃ (v : Value) (S' : Nat → Nat → Prop), e = .returned v ∧ Below w.heap.size w w' ∧ (∀ b o, S' b o → b < w'.heap.size ∧ (b < w.heap.size → C.S b o)) ∧ Rd { C with S := fun b o => C.S b o ∨ S' b o } w' d v := by
  refine (hp.ok k es d e2 C.S w args s.S (pureL_rd (C := C) (C' := bare C.S) (fun _ _ h => h) ds e1 r)).mono ?_
  rintro e w' ⟨v, S', h1, h2, h3, h4, h5⟩
  exact ⟨v, S', h1, h2, h4, pureD_rd (C := bare S') (C' := { C with S := fun b o => C.S b o ∨ S' b o }) (fun _ _ h => Or.inr h) d e3 h5⟩
/-! ### An operation -/
def dv (ts : List D) : Operand → D
  | .tmp t => ts.getD t .any
  | .const v => .raw v
  | .global g => .raw (.pointer (some ⟨g, 0, none⟩))
  | .func f => .raw (.func (.func f) #[] #[])
def fnD : D → Option (FuncId × List D × List D)
  | .raw (.func (.func k) f c) => some (k, f.toList.map D.raw, c.toList.map D.raw)
  | .fn (.func k) f c => some (k, f, c)
  | _ => none
def ifcD (t : TypeId) : D → D
  | .raw v => .raw (.iface t v)
  | d => .ifc t d
def notIface : TypeDesc → Bool
  | .interface _ => false
  | _ => true
def leafSize (P : Program) (e : TypeId) : Bool :=
  match P.info? e, P.underlying e with
  | some i, some d => d.isRow || i.size == 1
  | _, _ => false
def orRaw (P : Program) (ρ : Operand → D) (o : Oper) (x : Option D) : Option D :=
  match x with
  | some d => some d
  | none => rawOp P ρ o
def withH (h : H) (x : Option D) : Option (D × H) := x.map fun d => (d, h)
def pcall (penv : FuncId → List D → Option D) (k : FuncId) (ds : List D) : Option D :=
  match pureL ds with
  | some es => match penv k es with
    | some d => pureD d
    | none => none
  | none => none
def pairD (ρ : Operand → D) (parts : Array (Nat × Operand)) : List (Nat × D) := parts.toList.map fun p => (p.1, ρ p.2)
/-- Plain parts alone: two structs are compared so. -/
def aggV : D → Option Value
  | .agg ds => if ds.all isRaw = true then some (.agg (ds.map rawV).toArray) else none
  | _ => none
def aggBin (P : Program) (op : BinOp) (t : TypeId) (x y : Operand) (dx dy : D) : Option D := match aggV dx, aggV dy with
  | some v, some u => match pureRun P (do eqGuard op t x y v u; binOp op t v u : Sem Value) with
    | some r => some (.raw r)
    | none => none
  | _, _ => none
/-- What leaves the boxes and the logs. -/
def sop (P : Program) (ρ : Operand → D) (o : Oper) (h : H) : Option D :=
  match o.op with
  | .move x | .assign x => some (ρ x)
  | .pick c a b => match ρ c with
    | .raw (.bool t) => some (if t then ρ a else ρ b)
    | _ => none
  | .build t parts => buildD P t (pairD ρ parts)
  | .load t a => loadD P h t (ρ a)
  | .fieldAddr s x f => match fieldP P s f with
    | some (n, _) => moveP n (ρ x)
    | none => none
  | .field s x f => orRaw P ρ o (fieldD P s (ρ x) f)
  | .indexAddr t x i => indexD P t (ρ x) (ρ i)
  | .slice t x lo hi none => orRaw P ρ o (sliceD P t (ρ x) (lo.map ρ) (hi.map ρ))
  | .extract t i => orRaw P ρ o (extractD (ρ t) i)
  | .makeFunc f first cap => some (.fn f (first.toList.map ρ) (cap.toList.map ρ))
  | .makeInterface t x => match P.underlying t with
    | some d => if notIface d = true then some (ifcD t (ρ x)) else none
    | none => none
  | .convert s d x => orRaw P ρ o (convD P s d (ρ x))
  | .nilCheck x => match ρ x with
    | .bx id off => some (.bx id off)
    | .mp id sz j fld => some (.mp id sz j fld)
    | .pe d off => some (.pe d off)
    | .ifc t d => some (.ifc t d)
    | .fn (.func k) a b => some (.fn (.func k) a b)
    | _ => rawOp P ρ o
  | .binOp op t x y _ => orRaw P ρ o (aggBin P op t x y (ρ x) (ρ y))
  | .call c => match c.callee with
    | .builtin .len => orRaw P ρ o (if c.args.size = 1 ∧ c.argTypes.size = 1 then lenD P (c.argTypes.getD 0 0) (ρ (c.args.getD 0 (.const undef))) else none)
    | .builtin _ => rawOp P ρ o
    | _ => none
  | _ => rawOp P ρ o
def makeD (P : Program) (h : H) (t : TypeId) (l c : D) : Option (D × H) :=
  match elemP P t, l, c with
  | some (e, inf), .raw (.int _ x), .raw (.int _ y) =>
    if x = 0 ∧ y = 0 then some (.ms h.length 0 0, h ++ [.box e []]) else
    if 0 ≤ x ∧ x ≤ y ∧ roomy y.toNat inf.bytes = true ∧ 0 < inf.size ∧ (0 < y.toNat * inf.size) then
      match rowZero P e y.toNat inf.size with
      | some zs => if x = 0 then none else some (.ms h.length 0 x.toNat, h ++ [.box e (zs.map D.raw)])
      | none => none
    else none
  | _, _, _ => none
theorem makeD_sound {C : Cx} {h : H} {w : World} (s : Sim C h w) {t : TypeId} {l c d : D} {lv cv : Value} {h' : H} (hl : Rd C w l lv) (hc : Rd C w c cv) (e : makeD P h t l c = some (d, h')) :
    ∃ v C' w', (Instr.makeSlice t lv cv).run P w = .ok v w' ∧ Fw C w C' w' ∧ Sim C' h' w' ∧ Rd C' w' d v := by
  unfold makeD at e
  split at e
  · rename_i el inf k x k' y hel
    split at e
    · rename_i h00
      cases e
      obtain ⟨h1, h2⟩ := elemP_some hel
      simp only [Rd] at hl hc
      obtain ⟨rfl, rfl⟩ := h00
      subst hl
      subst hc
      have wn : IntKind.i64.wrap 0 = 0 := by decide
      obtain ⟨C', f, s', hb⟩ := s.box_new el (vs := #[]) (ds := []) (by simp [RdL]) (by simp)
      refine ⟨.slice (some ⟨w.heap.size, 0, none⟩) 0 0, C', w.alloc (.cells #[] el), ?_, f, s', _, 0, hb, rfl, Nat.le_refl _, Nat.zero_le _⟩
      simp [Instr.makeSlice, run_underlying h1, asInt, asIntOf, typeInfo, h2, wn, sizeOf, zeroValue, newRow]
      congr 2
      apply Array.ext'
      simp
    split at e
    · rename_i hcond
      obtain ⟨hx, hxy, hro, hsz, hpos⟩ := hcond
      split at e
      · rename_i zs hz
        split at e
        · cases e
        · cases e
          obtain ⟨h1, h2⟩ := elemP_some hel
          simp only [Rd] at hl hc
          subst hl
          subst hc
          obtain ⟨n, rfl⟩ := Int.eq_ofNat_of_zero_le hx
          obtain ⟨m, rfl⟩ := Int.eq_ofNat_of_zero_le (Int.le_trans hx hxy)
          obtain ⟨hz2, hz1⟩ := rowZero_sound hz
          simp only [Int.ofNat_eq_natCast, Int.toNat_natCast] at hz hz1 hpos hro ⊢
          rcases hz1 with ⟨q1, _⟩ | ⟨q1, i, z, q2, q3, q4⟩
          · omega
          · rw [h2] at q2
            cases q2
            obtain ⟨C', f, s', hb⟩ := s.box_new el (vs := zs.toArray) (ds := zs.map D.raw) (by simpa using RdL.raws C w zs) (by simpa using hz2)
            obtain ⟨r1, r2⟩ := roomy_some hro
            simp only [roomy, Bool.and_eq_true, decide_eq_true_eq] at hro
            have hnm : n ≤ m := by exact_mod_cast hxy
            refine ⟨.slice (some ⟨w.heap.size, 0, none⟩) n m, C', w.alloc (.cells zs.toArray el), ?_, f, s', _, m, hb, rfl, hnm, r1⟩
            have wn : IntKind.i64.wrap (n : Int) = n := IntWalk.i64_in _ (by omega)
            have wm : IntKind.i64.wrap (m : Int) = m := IntWalk.i64_in _ (by omega)
            have hb48 : ¬ ((281474976710656 : Int) < (inf.bytes : Int) * (m : Int)) := by
              have : m * inf.bytes ≤ 140737488355328 := r2
              have h3 : (inf.bytes : Int) * (m : Int) = ((m * inf.bytes : Nat) : Int) := by rw [Nat.mul_comm]; rfl
              rw [h3]
              omega
            have hm0 : ¬ ((m : Int) < 0) := by omega
            have hn0 : ¬ ((n : Int) < 0) := by omega
            have hlm : ¬ ((m : Int) < (n : Int)) := by omega
            rw [q4]
            simp [Instr.makeSlice, run_underlying h1, asInt, asIntOf, typeInfo, h2, wn, wm, hb48, hm0, hn0, hlm, sizeOf, zeroValue, q3, q1, newRow]
      · cases e
    · cases e
  · cases e
def aop (P : Program) (call : FuncId → List D → H → Option (D × H)) (own : Bool) (ρ : Operand → D) (o : Oper) (h : H) : Option (D × H) :=
  match o.op with
  | .alloc t => match zeroD P t with
    | some ds => some (.bx h.length 0, h ++ [.box t ds])
    | none => none
  | .box t x => match cellsD (ρ x) with
    | some ds => if ds.all leafD = true then some (.bx h.length 0, h ++ [.box t ds]) else none
    | none => none
  | .buildSlice t n parts => match buildRow P t n (pairD ρ parts) with
    | some (e, sz, l) => if leafSize P e = true then (if own = true then some (.sl (some h.length) sz l, h ++ [.log e sz n]) else some (.sl none sz l, h)) else none
    | none => none
  | .makeSlice t l c => makeD P h t (ρ l) (ρ c)
  | .store t a x => match storeD P h t (ρ a) (ρ x) with
    | some h' => some (.any, h')
    | none => none
  | .call c => match c.callee with
    | .builtin .append => if c.args.size = 2 ∧ c.argTypes.size = 2 then appendD P h (c.argTypes.getD 0 0) (c.argTypes.getD 1 0) (ρ (c.args.getD 0 (.const undef))) (ρ (c.args.getD 1 (.const undef))) else none
    | .value f => match fnD (ρ f) with
      | some (k, first, cap) => call k (first ++ c.args.toList.map ρ ++ cap) h
      | none => none
    | _ => withH h (sop P ρ o h)
  | _ => withH h (sop P ρ o h)
theorem Reads.map {C : Cx} {w : World} {ρ : Operand → D} {ρv : Operand → Value} (hr : Reads C w ρ ρv) : ∀ l : List Operand, RdL C w (l.map ρ) (l.map ρv)
  | [] => rfl
  | x :: l => ⟨_, _, rfl, hr x, hr.map l⟩
theorem Reads.pairs {C : Cx} {w : World} {ρ : Operand → D} {ρv : Operand → Value} (hr : Reads C w ρ ρv) (parts : Array (Nat × Operand)) : PartsRd C w (pairD ρ parts) (parts.map fun (i, x) => (i, ρv x)).toList := by
  refine ⟨fun j => ?_, fun j p q hp hq => ?_⟩
  · unfold pairD
    simp only [List.getElem?_map, Array.toList_map, Option.map_map]
    rfl
  · unfold pairD at hp
    simp only [List.getElem?_map, Array.toList_map, Option.map_eq_some_iff] at hp hq
    obtain ⟨x, hx, rfl⟩ := hp
    obtain ⟨y, hy, rfl⟩ := hq
    rw [hx] at hy
    cases hy
    exact hr x.2
theorem orRaw_some {ρ : Operand → D} {o : Oper} {x : Option D} {d : D} (e : orRaw P ρ o x = some d) : x = some d ∨ rawOp P ρ o = some d := by
  unfold orRaw at e
  split at e
  · cases e; exact .inl rfl
  · exact .inr e
theorem withH_some {h : H} {x : Option D} {d : D} {h' : H} (e : withH h x = some (d, h')) : h' = h ∧ x = some d := by
  unfold withH at e
  rw [Option.map_eq_some_iff] at e
  obtain ⟨y, rfl, e⟩ := e
  cases e
  exact ⟨rfl, rfl⟩
theorem wp_of_value {o : Oper} {a : Act} {w w' : World} {v : Value} {K : Act → World → Prop} {Q : Exit → Act → World → Prop} (e : (execOp a.eval o).run P w = .ok (.value v) w') (hk : K (a.put o.dst v) w') : o.wp P a w K Q := by
  unfold Oper.wp
  rw [e]
  exact hk
theorem size_one {α : Type} {args : Array α} (x : α) (h : args.size = 1) : args = #[args.getD 0 x] := by
  apply Array.ext
  · simpa using h
  · intro i h1 h2
    have : i = 0 := by simp at h2; omega
    subst this
    simp [h]
theorem size_two {α : Type} {args : Array α} (x : α) (h : args.size = 2) : args = #[args.getD 0 x, args.getD 1 x] := by
  apply Array.ext
  · simpa using h
  · intro i h1 h2
    simp at h2
    rcases (by omega : i = 0 ∨ i = 1) with rfl | rfl <;> simp [h]
theorem rawL_rd {C : Cx} {w : World} : ∀ {ds : List D} {vs : List Value}, ds.all isRaw = true → RdL C w ds vs → vs = ds.map rawV
  | [], vs, _, h => by
    simp only [RdL] at h
    subst h
    rfl
  | d :: r, vs, hr, h => by
    obtain ⟨v, us, rfl, h1, h2⟩ := h
    simp only [List.all_cons, Bool.and_eq_true] at hr
    rw [List.map_cons, rawL_rd hr.2 h2]
    cases d with
    | raw u =>
      simp only [Rd] at h1
      rw [h1]
      rfl
    | _ => simp [isRaw] at hr
theorem aggV_rd {C : Cx} {w : World} {d : D} {v u : Value} (e : aggV d = some u) (h : Rd C w d v) : v = u := by
  cases d with
  | agg ds =>
    simp only [aggV] at e
    split at e
    · rename_i ha
      cases e
      obtain ⟨vs, rfl, h⟩ := h
      rw [rawL_rd ha h]
    · cases e
  | _ => cases e
theorem aggBin_sound {P : Program} {C : Cx} {w : World} {ρ : Operand → D} {ρv : Operand → Value} (hr : Reads C w ρ ρv) {o : Oper} {op : BinOp} {t : TypeId} {x y : Operand} {t' : TypeId} (ho : o.op = .binOp op t x y t') {d : D} (e : aggBin P op t x y (ρ x) (ρ y) = some d) : ∃ v, (execOp ρv o).run P w = .ok (.value v) w ∧ Rd C w d v := by
  unfold aggBin at e
  split at e
  · rename_i v u hv hu
    have ex := aggV_rd hv (hr x)
    have ey := aggV_rd hu (hr y)
    split at e
    · rename_i r hrun
      cases e
      refine ⟨r, ?_, rfl⟩
      have h1 := pureRun_sound hrun w
      simp only [execOp, ho, ex, ey]
      simp only [Sem.run_bind] at h1 ⊢
      rw [h1]
      rfl
    · cases e
  · cases e
theorem sop_sound {C : Cx} {h : H} {w : World} (s : Sim C h w) {ρ : Operand → D} {ρv : Operand → Value} (hr : Reads C w ρ ρv) {o : Oper} {d : D}
    (e : sop P ρ o h = some d) : ∃ v, (execOp ρv o).run P w = .ok (.value v) w ∧ Rd C w d v := by
  have viaRaw : ∀ {x : Option D}, orRaw P ρ o x = some d → (∀ d', x = some d' → ∃ v, (execOp ρv o).run P w = .ok (.value v) w ∧ Rd C w d' v) → ∃ v, (execOp ρv o).run P w = .ok (.value v) w ∧ Rd C w d v := fun {x} e1 e2 => by
    rcases orRaw_some e1 with h2 | h2
    · exact e2 d h2
    · exact rawOp_sound hr h2
  unfold sop at e
  split at e
  · rename_i x ho
    cases e
    exact ⟨_, by simp [execOp, ho], hr x⟩
  · rename_i x ho
    cases e
    exact ⟨_, by simp [execOp, ho], hr x⟩
  · rename_i c x y ho
    split at e
    · rename_i t hc
      cases e
      have hc' := hr c
      rw [hc] at hc'
      simp only [Rd] at hc'
      cases t with
      | true => exact ⟨ρv x, by simp [execOp, ho, hc', asBool], hr x⟩
      | false => exact ⟨ρv y, by simp [execOp, ho, hc', asBool], hr y⟩
    · cases e
  · rename_i t parts ho
    obtain ⟨v, h1, h2⟩ := buildD_sound (w := w) (hr.pairs parts) e
    exact ⟨v, by simp only [execOp, ho, Sem.run_bind, h1]; rfl, h2⟩
  · rename_i t x ho
    obtain ⟨v, h1, h2⟩ := loadD_sound s (hr x) e
    exact ⟨v, by simp only [execOp, ho, Sem.run_bind, h1]; rfl, h2⟩
  · rename_i st x f ho
    split at e
    · rename_i n ft hf
      obtain ⟨v, h1, h2⟩ := fieldAddr_sound hf (hr x) e
      exact ⟨v, by simp only [execOp, ho, Sem.run_bind, h1]; rfl, h2⟩
    · cases e
  · rename_i st x f ho
    refine viaRaw e fun d' hd => ?_
    obtain ⟨v, h1, h2⟩ := fieldD_sound (hr x) hd
    exact ⟨v, by simp only [execOp, ho, Sem.run_bind, h1]; rfl, h2⟩
  · rename_i t x i ho
    obtain ⟨v, h1, h2⟩ := indexD_sound (hr x) (hr i) e
    exact ⟨v, by simp only [execOp, ho, Sem.run_bind, h1]; rfl, h2⟩
  · rename_i t x lo hi ho
    refine viaRaw e fun d' hd => ?_
    have hopt : ∀ y : Option Operand, (match y.map ρ, y.map ρv with | some d, some v => Rd C w d v | none, none => True | _, _ => False) := fun y => by
      cases y with
      | none => trivial
      | some y => exact hr y
    obtain ⟨v, h1, h2⟩ := sliceD_sound (hr x) (hopt lo) (hopt hi) hd
    exact ⟨v, by simp only [execOp, ho, Sem.run_bind, Option.map_none, h1]; rfl, h2⟩
  · rename_i t i ho
    refine viaRaw e fun d' hd => ?_
    obtain ⟨v, h1, h2⟩ := extractD_sound (P := P) (hr t) hd
    exact ⟨v, by simp only [execOp, ho, Sem.run_bind, h1]; rfl, h2⟩
  · rename_i f first cap ho
    cases e
    refine ⟨.func f (first.map ρv) (cap.map ρv), ?_, _, _, by rw [← Array.toList_map, ← Array.toList_map], hr.map first.toList, hr.map cap.toList⟩
    simp [execOp, ho, Instr.makeFunc]
  · rename_i t x ho
    split at e
    · rename_i dd hu
      split at e
      · rename_i hn
        cases e
        have hrun : (execOp ρv o).run P w = .ok (.value (.iface t (ρv x))) w := by
          simp only [execOp, ho, Sem.run_bind, Instr.makeInterface, run_underlying hu]
          cases dd <;> first | rfl | cases hn
        refine ⟨_, hrun, ?_⟩
        have hx := hr x
        unfold ifcD
        split
        · rename_i v hv
          rw [hv] at hx
          simp only [Rd] at hx ⊢
          rw [hx]
        · exact ⟨_, rfl, hx⟩
      · cases e
    · cases e
  · rename_i st dt x ho
    refine viaRaw e fun d' hd => ?_
    obtain ⟨v, h1, h2⟩ := convD_sound (hr x) hd
    exact ⟨v, by simp only [execOp, ho, Sem.run_bind, h1]; rfl, h2⟩
  · rename_i x ho
    have hx := hr x
    split at e
    · rename_i id off hv
      cases e
      rw [hv] at hx
      have hx' := hx
      obtain ⟨b, _, e2⟩ := hx'
      exact ⟨ρv x, by simp [execOp, ho, e2], hx⟩
    · rename_i id sz j fld hv
      cases e
      rw [hv] at hx
      have hx' := hx
      obtain ⟨b, _, e2⟩ := hx'
      exact ⟨ρv x, by simp [execOp, ho, e2], hx⟩
    · rename_i d' off hv
      cases e
      rw [hv] at hx
      have hx' := hx
      obtain ⟨b, o', u, e2, _⟩ := hx'
      exact ⟨ρv x, by simp [execOp, ho, e2], hx⟩
    · rename_i t d' hv
      cases e
      rw [hv] at hx
      have hx' := hx
      obtain ⟨u, e2, _⟩ := hx'
      exact ⟨ρv x, by simp [execOp, ho, e2], hx⟩
    · rename_i k a b hv
      cases e
      rw [hv] at hx
      have hx' := hx
      obtain ⟨vs, us, e2, _⟩ := hx'
      exact ⟨ρv x, by simp [execOp, ho, e2], hx⟩
    · exact rawOp_sound hr e
  · rename_i op t x y t' ho
    exact viaRaw e fun d' hd => aggBin_sound hr ho hd
  · rename_i c ho
    obtain ⟨callee, args, argTypes⟩ := c
    dsimp only at e
    split at e
    · refine viaRaw e fun d' hd => ?_
      split at hd
      · rename_i hsz
        obtain ⟨v, h1, h2⟩ := lenD_sound (ty := o.type) (hr (args.getD 0 (.const undef))) hd
        refine ⟨v, ?_, h2⟩
        rw [size_one (.const undef) hsz.1, size_one 0 hsz.2] at ho
        simp only [execOp, ho, Sem.run_bind, resolve, invoke, builtin, Sem.run_pure, Result.andThen_ok, List.map_toArray, List.map_cons, List.map_nil, h1]
      · cases hd
    · exact rawOp_sound hr e
    · cases e
  · exact rawOp_sound hr e
theorem aop_sound {call : FuncId → List D → H → Option (D × H)} (hcall : CallOk P call) {C : Cx} {h : H} {w : World} (s : Sim C h w) {ρ : Operand → D} {a : Act} (hr : Reads C w ρ a.eval) {o : Oper} {d : D} {h' : H}
    {own : Bool} (e : aop P call own ρ o h = some (d, h')) {K : Act → World → Prop} {Q : Exit → Act → World → Prop} (hk : ∀ v C' w', Fw C w C' w' → Sim C' h' w' → Rd C' w' d v → K (a.put o.dst v) w') : o.wp P a w K Q := by
  have still : withH h (sop P ρ o h) = some (d, h') → o.wp P a w K Q := fun e1 => by
    obtain ⟨rfl, e2⟩ := withH_some e1
    obtain ⟨v, h1, h2⟩ := sop_sound s hr e2
    exact wp_of_value h1 (hk _ C w (Fw.refl _ _) s h2)
  unfold aop at e
  split at e
  · rename_i t ho
    split at e
    · rename_i ds hz
      cases e
      obtain ⟨i, z, h1, h2, h3, rfl⟩ := zeroD_some hz
      obtain ⟨C', w', v', k1, k2, k3, k4⟩ := box_good (P := P) s t (v := z) (RdL.raws C w _) h3
      refine wp_of_value (v := .pointer (some v')) (w' := w') ?_ (hk _ C' w' k2 k3 k4)
      simp [execOp, ho, Instr.alloc, zeroValue, typeInfo, h1, h2, k1]
    · cases e
  · rename_i t x ho
    split at e
    · rename_i ds hc
      split at e
      · rename_i hl
        cases e
        have hcs := (hr x).cells hc
        obtain ⟨C', w', v', k1, k2, k3, k4⟩ := box_good (P := P) s t (v := a.eval x) hcs (hcs.leaves hl)
        refine wp_of_value (v := .pointer (some v')) (w' := w') ?_ (hk _ C' w' k2 k3 k4)
        simp [execOp, ho, Instr.box, k1]
      · cases e
    · cases e
  · rename_i t n parts ho
    split at e
    · rename_i el sz l hb
      split at e
      · rename_i hls
        have hside : ∀ i dd, P.info? el = some i → P.underlying el = some dd → dd.isRow = false → i.size = 1 := fun i dd h1 h2 h3 => by
          unfold leafSize at hls
          rw [h1, h2] at hls
          simp only [Bool.or_eq_true, beq_iff_eq] at hls
          rcases hls with hls | hls
          · rw [h3] at hls; cases hls
          · exact hls
        split at e
        · cases e
          obtain ⟨v, C', w', k1, k2, k3, k4, _⟩ := buildRow_sound s (hr.pairs parts) hb hside
          refine wp_of_value ?_ (hk _ C' w' k2 k3 k4)
          simp only [execOp, ho, Sem.run_bind, k1]
          rfl
        · cases e
          obtain ⟨cv, k1, k2, k3, k4, k5⟩ := buildRow_core (hr.pairs parts) hb hside
          have f := Fw.alloc s (.cells cv el) (fun _ => True)
          refine wp_of_value (v := .slice (some ⟨w.heap.size, 0, none⟩) n n) (w' := w.alloc (.cells cv el)) ?_ (hk _ _ _ f (s.alloc _ _) ⟨⟨_, _, by rw [k4], by rw [k4]; exact Nat.le_refl _, k3⟩, fun h0 => ⟨_, 0, n, by rw [k4], fun i _ => .inr ⟨rfl, trivial⟩, RdE.mono f.toEv sz l _ _ k5 fun i _ => ?_⟩, fun id e => by cases e⟩)
          · simp only [execOp, ho, Sem.run_bind, k1]
            rfl
          · rw [Nat.zero_add]
            exact World.cell?_alloc_new w _ _ i
      · cases e
    · cases e
  · rename_i t x y ho
    obtain ⟨v, C', w', k1, k2, k3, k4⟩ := makeD_sound s (hr x) (hr y) e
    refine wp_of_value ?_ (hk _ C' w' k2 k3 k4)
    simp only [execOp, ho, Sem.run_bind, k1]
    rfl
  · rename_i t x y ho
    split at e
    · rename_i h2 hst
      cases e
      obtain ⟨w', k1, k2, k3⟩ := storeD_sound s (hr x) (hr y) hst
      have : (execOp a.eval o).run P w = .ok .skip w' := by
        simp only [execOp, ho, Sem.run_bind, k1]
        rfl
      unfold Oper.wp
      rw [this]
      exact hk undef C w' k2 k3 trivial
    · cases e
  · rename_i c ho
    obtain ⟨callee, args, argTypes⟩ := c
    dsimp only at e
    split at e
    · split at e
      · rename_i hsz
        obtain ⟨v, C', w', k1, k2, k3, k4⟩ := appendD_sound (ty := o.type) s (hr (args.getD 0 (.const undef))) (hr (args.getD 1 (.const undef))) e
        refine wp_of_value ?_ (hk _ C' w' k2 k3 k4)
        rw [size_two (.const undef) hsz.1, size_two 0 hsz.2] at ho
        simp only [execOp, ho, Sem.run_bind, resolve, invoke, builtin, Sem.run_pure, Result.andThen_ok, List.map_toArray, List.map_cons, List.map_nil, k1]
      · cases e
    · rename_i f
      split at e
      · rename_i k first cap hf
        have hfr := hr f
        have hargs : RdL C w (first ++ args.toList.map ρ ++ cap) ((match a.eval f with | .func _ x y => x.toList | _ => []) ++ args.toList.map a.eval ++ (match a.eval f with | .func _ x y => y.toList | _ => [])) ∧ ∃ x y, a.eval f = .func (.func k) x y := by
          unfold fnD at hf
          split at hf
          · rename_i k' x y hv
            cases hf
            rw [hv] at hfr
            simp only [Rd] at hfr
            rw [hfr]
            exact ⟨((RdL.raws C w _).app (hr.map _)).app (RdL.raws C w _), _, _, rfl⟩
          · rename_i k' x y hv
            cases hf
            rw [hv] at hfr
            simp only [Rd] at hfr
            obtain ⟨vs, us, e1, r1, r2⟩ := hfr
            rw [e1]
            exact ⟨(r1.app (hr.map _)).app r2, _, _, rfl⟩
          · cases hf
        obtain ⟨hargs, x, y, hev⟩ := hargs
        rw [hev] at hargs
        have hret := hcall.ok k _ h d h' e C w _ s hargs
        have hrun : (execOp a.eval o).run P w = .ok (.enter k ((x.toList ++ args.toList.map a.eval ++ y.toList).toArray)) w := by
          simp only [execOp, ho, Sem.run_bind, resolve, hev, Deferred.ofValue, Sem.run_pure, Result.andThen_ok, invoke]
          rw [callable_run (hcall.can k _ h d h' e)]
          congr 2
          apply Array.ext'
          simp
        unfold Oper.wp
        rw [hrun]
        refine Calls.mono hret ?_
        rintro e' w' ⟨v, C', rfl, k1, k2, k3⟩
        exact hk v C' w' k1 k2 k3
      · cases e
    · exact still e
  · exact still e
end
end Go.Proofs.Ytbfmaicoefefaaa.Pv
/-! ## Part 9 -/
namespace Go.Proofs.Ytbfmaicoefefaaa.Pv
open Go Go.RowKit
section
variable {P : Program}
def putD (ts : List D) : Option Tmp → D → List D
  | some t, d => ts.set t d
  | none, _ => ts
def wantedD (ops : Array Oper) (ts : List D) (o : Oper) : Option Bool :=
  match o.guard with
  | none => some true
  | some (j, want) => match (ops[j]?).bind (·.dst) with
    | some t => match ts[t]? with
      | some (.raw (.bool b)) => some (b == want)
      | some (.raw (.tuple _)) => some false
      | _ => none
    | none => some false
structure TA (C : Cx) (w : World) (ts : List D) (a : Act) : Prop where
  rd : RdL C w ts a.tmps.toList
  defers : a.defers = []
theorem TA.mono {C C' : Cx} {w w' : World} {ts : List D} {a : Act} (h : TA C w ts a) (f : Ev C w C' w') : TA C' w' ts a := ⟨h.rd.mono f, h.defers⟩
theorem TA.put {C : Cx} {w : World} {ts : List D} {a : Act} (h : TA C w ts a) {d : D} {v : Value} (hd : Rd C w d v) (t : Option Tmp) : TA C w (putD ts t d) (a.put t v) := by
  cases t with
  | none => exact h
  | some t => exact ⟨by simpa [putD, Act.put] using RdL.set hd h.rd t, h.defers⟩
theorem TA.reads {C : Cx} {w : World} {ts : List D} {a : Act} (h : TA C w ts a) : Reads C w (dv ts) a.eval := by
  intro x
  cases x with
  | tmp t =>
    simp only [dv, Act.eval]
    cases ht : ts[t]? with
    | none => simp [List.getD, ht, Rd]
    | some d =>
      obtain ⟨v, hv, hr⟩ := h.rd.get ht
      have : a.tmps.getD t undef = v := by
        rw [Array.getElem?_toList] at hv
        simp [hv]
      simp [List.getD, ht, this]
      exact hr
  | const v => rfl
  | global g => rfl
  | func f => rfl
theorem wantedD_sound {C : Cx} {w : World} {ops : Array Oper} {ts : List D} {a : Act} (h : TA C w ts a) {o : Oper} {b : Bool} (e : wantedD ops ts o = some b) : Region.wanted o (yielded ops a.tmps) = b := by
  unfold wantedD at e
  unfold Region.wanted
  split at e
  · rename_i hg
    cases e
    simp [hg]
  · rename_i j want hg
    simp only [hg]
    split at e
    · rename_i t ht
      split at e
      · rename_i b' hb
        cases e
        obtain ⟨v, hv, hr⟩ := h.rd.get hb
        simp only [Rd] at hr
        subst hr
        rw [Array.getElem?_toList] at hv
        unfold yielded
        rw [ht]
        simp only [Option.bind_some, hv]
        cases b' <;> cases want <;> rfl
      · rename_i vs hb
        cases e
        obtain ⟨v, hv, hr⟩ := h.rd.get hb
        simp only [Rd] at hr
        subst hr
        rw [Array.getElem?_toList] at hv
        unfold yielded
        rw [ht]
        simp only [Option.bind_some, hv]
        rfl
      · cases e
    · rename_i ht
      cases e
      unfold yielded
      rw [ht]
      rfl
def ownB (ops : Array Oper) (o : Oper) : Bool :=
  match o.dst with
  | some t => ops.any fun q => match q.op with
    | .assign (.tmp u) => u == t
    | .store _ _ (.tmp u) => u == t
    | .call { callee := .builtin .append, args := args, argTypes := _ } => match (args[0]? : Option Operand) with
      | some (.tmp u) => u == t
      | _ => false
    | _ => false
  | none => false
/-- The operations of a region, in the order of the text. -/
def alist (P : Program) (call : FuncId → List D → H → Option (D × H)) (ops : Array Oper) : List Oper → List D → H → Option (List D × H)
  | [], ts, h => some (ts, h)
  | o :: rest, ts, h => match wantedD ops ts o with
    | some true => match aop P call (ownB ops o) (dv ts) o h with
      | some (d, h') => alist P call ops rest (putD ts o.dst d) h'
      | none => none
    | some false => alist P call ops rest (putD ts o.dst (.raw undef)) h
    | none => none
theorem alist_sound {call : FuncId → List D → H → Option (D × H)} (hcall : CallOk P call) {ops : Array Oper} {Q : Exit → Act → World → Prop} : ∀ {l : List Oper} {ts ts' : List D} {h h' : H} {C : Cx} {w : World} {a : Act}, alist P call ops l ts h = some (ts', h') → Sim C h w → TA C w ts a →
    (∀ a' C' w', Fw C w C' w' → Sim C' h' w' → TA C' w' ts' a' → Q .normal a' w') → wpList P ops Q l a w
  | [], ts, ts', h, h', C, w, a, e, s, ta, hk => by
    simp only [alist, Option.some.injEq, Prod.mk.injEq] at e
    obtain ⟨rfl, rfl⟩ := e
    exact hk a C w (Fw.refl _ _) s ta
  | o :: rest, ts, ts', h, h', C, w, a, e, s, ta, hk => by
    simp only [alist] at e
    unfold wpList
    split at e
    · rename_i hw
      rw [wantedD_sound ta hw]
      split at e
      · rename_i d h1 ho
        refine .inl (aop_sound hcall s ta.reads ho fun v C' w' f s' r => ?_)
        exact alist_sound hcall e s' ((ta.mono f.toEv).put r _) fun a' C2 w2 f2 s2 t2 => hk a' C2 w2 (f.trans f2) s2 t2
      · cases e
    · rename_i hw
      rw [wantedD_sound ta hw]
      exact alist_sound hcall e s (ta.put (show Rd C w (.raw undef) undef from rfl) _) hk
    · cases e
/-! ### Code -/
inductive AExit where
  | normal
  | exit (id : Nat)
  | ret
def AExit.ex : AExit → Exit
  | .normal => .normal
  | .exit id => .exit id
  | .ret => .ret
abbrev Res := Option (AExit × List D × H)
def aloop (step : List D → H → Res) : Nat → List D → H → Res
  | 0, _, _ => none
  | n + 1, ts, h => match step ts h with
    | some (.normal, ts', h') => aloop step n ts' h'
    | r => r
/-- 'tidy': what a loop, known by the temp that it writes first, forgets at its head. -/
structure Env where
  call : FuncId → List D → H → Option (D × H)
  dr : List Oper → List D → H → Option (List D × H)
  tidy : Nat → Nat → List D → H → List D × H := fun _ _ ts h => (ts, h)
/-! ### What a round may forget -/
mutual
def idb (m : Nat) : D → Bool
  | .any | .raw _ | .sln _ => true
  | .agg ds | .tup ds => idbL m ds
  | .sl tag _ ds => (match tag with | some id => decide (id < m) | none => true) && idbL m ds
  | .bx id _ | .ms id _ _ | .mp id _ _ _ => decide (id < m)
  | .pe d _ | .ifc _ d => idb m d
  | .fn _ a b => idbL m a && idbL m b
def idbL (m : Nat) : List D → Bool
  | [] => true
  | d :: ds => idb m d && idbL m ds
end
def cellIdb (m : Nat) : Cell → Bool
  | .box _ ds => idbL m ds
  | .log .. | .dead | .keep .. => true
def gc (m : Nat) (ts : List D) (h : H) : H := if idbL m ts = true ∧ (h.take m).all (cellIdb m) = true then h.take m else h
def scrub : List Tmp → List D → List D
  | [], ts => ts
  | t :: r, ts => scrub r (ts.set t .any)
/-- What a text defines for sure, and what it uses ahead of that. -/
structure DU where
  defs : List Tmp
  uses : List Tmp
def duUse (x : DU) : Operand → DU
  | .tmp t => if x.defs.contains t then x else ⟨x.defs, t :: x.uses⟩
  | _ => x
def duOps : List Oper → DU → DU
  | [], x => x
  | o :: r, x =>
    let y := o.op.operands.toList.foldl duUse x
    duOps r ⟨o.dst.toList ++ y.defs, y.uses⟩
def duCode : Code → DU → DU
  | .region _ ops _, x => duOps ops.toList x
  | .seq a b, x => duCode b (duCode a x)
  | .cond c a b, x =>
    let x := duUse x c
    let p := duCode a x
    let q := duCode b ⟨x.defs, p.uses⟩
    ⟨p.defs.filter q.defs.contains, q.uses⟩
  | .block _ c, x | .loop c, x => ⟨x.defs, (duCode c x).uses⟩
  | _, x => x
def allDsts : Code → List Tmp
  | .region _ ops _ => ops.toList.filterMap (·.dst)
  | .seq a b => allDsts a ++ allDsts b
  | .cond _ a b => allDsts a ++ allDsts b
  | .block _ c | .loop c => allDsts c
  | _ => []
def dstsOf (c : Code) : List Tmp :=
  let u := (duCode c ⟨[], []⟩).uses
  (allDsts c).filter fun t => !u.contains t
def Cx.cut (C : Cx) (m : Nat) : Cx := { C with bx := fun id => if id < m then C.bx id else none, lg := fun id => if id < m then C.lg id else none }
mutual
theorem Rd.cut {C : Cx} {w : World} {m : Nat} : ∀ (d : D) {v : Value}, idb m d = true → Rd C w d v → Rd (C.cut m) w d v
  | .any, _, _, _ => trivial
  | .raw _, _, _, h => h
  | .agg ds, _, e, ⟨vs, hv, r⟩ => ⟨vs, hv, RdL.cut ds (by simpa only [idb] using e) r⟩
  | .tup ds, _, e, ⟨vs, hv, r⟩ => ⟨vs, hv, RdL.cut ds (by simpa only [idb] using e) r⟩
  | .sl tag sz ds, _, e, ⟨h1, h2, h3⟩ => by
    simp only [idb, Bool.and_eq_true] at e
    refine ⟨h1, fun hp => ?_, fun id ht => ?_⟩
    · obtain ⟨b, off, cap, k1, k2, k3⟩ := h2 hp
      exact ⟨b, off, cap, k1, k2, RdE.cut sz ds e.2 k3⟩
    · obtain ⟨u, k1, k2⟩ := h3 id ht
      subst ht
      have hlt : id < m := by simpa using e.1
      exact ⟨u, by simp only [Cx.cut, if_pos hlt]; exact k1, k2⟩
  | .bx id off, _, e, ⟨b, hb, hv⟩ => by
    have hlt : id < m := by simpa [idb] using e
    exact ⟨b, by simp only [Cx.cut, if_pos hlt]; exact hb, hv⟩
  | .mp id sz j fld, _, e, ⟨b, hb, hv⟩ => by
    have hlt : id < m := by simpa [idb] using e
    exact ⟨b, by simp only [Cx.cut, if_pos hlt]; exact hb, hv⟩
  | .ms id off n, _, e, ⟨b, cap, hb, hv⟩ => by
    have hlt : id < m := by simpa [idb] using e
    exact ⟨b, cap, by simp only [Cx.cut, if_pos hlt]; exact hb, hv⟩
  | .sln n, _, _, h => h
  | .pe d off, _, e, ⟨b, o, u, hv, r, hc⟩ => ⟨b, o, u, hv, Rd.cut d (by simpa only [idb] using e) r, hc⟩
  | .fn f a b, _, e, ⟨vs, us, hv, r1, r2⟩ => by
    simp only [idb, Bool.and_eq_true] at e
    exact ⟨vs, us, hv, RdL.cut a e.1 r1, RdL.cut b e.2 r2⟩
  | .ifc t d, _, e, ⟨u, hv, r⟩ => ⟨u, hv, Rd.cut d (by simpa only [idb] using e) r⟩
theorem RdL.cut {C : Cx} {w : World} {m : Nat} : ∀ (ds : List D) {vs : List Value}, idbL m ds = true → RdL C w ds vs → RdL (C.cut m) w ds vs
  | [], _, _, r => r
  | d :: ds, _, e, ⟨v, rest, hv, r1, r2⟩ => by
    simp only [idbL, Bool.and_eq_true] at e
    exact ⟨v, rest, hv, Rd.cut d e.1 r1, RdL.cut ds e.2 r2⟩
theorem RdE.cut {C : Cx} {w : World} {m : Nat} (sz : Nat) : ∀ (ds : List D) {f : Nat → Option Value}, idbL m ds = true → RdE C w sz ds f → RdE (C.cut m) w sz ds f
  | [], _, _, _ => trivial
  | d :: ds, _, e, ⟨⟨u, r, h3, h4, h5⟩, r2⟩ => by
    simp only [idbL, Bool.and_eq_true] at e
    exact ⟨⟨u, Rd.cut d e.1 r, h3, h4, h5⟩, RdE.cut sz ds e.2 r2⟩
end
theorem Cx.cut_blk {C : Cx} {m id b : Nat} (h : (C.cut m).blk id b) : id < m ∧ C.blk id b := by
  rcases h with h | ⟨u, h, hb⟩
  · simp only [Cx.cut] at h
    split at h
    · exact ⟨‹_›, .inl h⟩
    · cases h
  · simp only [Cx.cut] at h
    split at h
    · exact ⟨‹_›, .inr ⟨u, h, hb⟩⟩
    · cases h
theorem Sim.cut {C : Cx} {h : H} {w : World} (s : Sim C h w) {m : Nat} (hm : (h.take m).all (cellIdb m) = true) : Sim (C.cut m) (h.take m) w := by
  have old : ∀ {id : Nat} {c : Cell}, (h.take m)[id]? = some c → id < m ∧ h[id]? = some c := fun {id c} e => by
    have hlt := (List.getElem?_eq_some_iff.1 e).1
    rw [List.length_take] at hlt
    rw [List.getElem?_take_of_lt (by omega)] at e
    exact ⟨by omega, e⟩
  refine ⟨s.S, fun id t ds e => ?_, fun id e sz n e' => ?_, fun id b hb => s.lt id b (Cx.cut_blk hb).2, fun id b hb => ?_, fun id u hu => ?_, fun id id' b hb hb' => s.inj id id' b (Cx.cut_blk hb).2 (Cx.cut_blk hb').2, fun id b hb => ?_, fun id b P e => ?_⟩
  · obtain ⟨hlt, e2⟩ := old e
    obtain ⟨b, vs, h1, h2, h3, h4, h5⟩ := s.box id t ds e2
    have hid := List.all_eq_true.1 hm _ (List.mem_of_getElem? e)
    exact ⟨b, vs, by simp only [Cx.cut, if_pos hlt]; exact h1, h2, h3.cut ds hid, h4, h5⟩
  · obtain ⟨hlt, e2⟩ := old e'
    obtain ⟨u, xs, h1, h2, h3⟩ := s.log id e sz n e2
    exact ⟨u, xs, by simp only [Cx.cut, if_pos hlt]; exact h1, h2, h3⟩
  · simp only [Cx.cut] at hb
    split at hb
    · have := s.idb id b hb
      rw [List.length_take]
      omega
    · cases hb
  · simp only [Cx.cut] at hu
    split at hu
    · have := s.idl id u hu
      rw [List.length_take]
      omega
    · cases hu
  · simp only [Cx.cut] at hb ⊢
    split at hb
    · rw [if_pos ‹_›]
      exact s.one id b hb
    · cases hb
  · obtain ⟨hlt, e2⟩ := old e
    obtain ⟨h1, h2, h3⟩ := s.keep id b P e2
    exact ⟨by simp only [Cx.cut, if_pos hlt]; exact h1, h2, h3⟩
theorem Fw.cut {C0 C : Cx} {w0 w : World} {m : Nat} (f : Fw C0 w0 C w) (hb : ∀ id b, C0.bx id = some b → id < m) (hl : ∀ id u, C0.lg id = some u → id < m) : Fw C0 w0 (C.cut m) w := by
  refine ⟨⟨f.os, f.tape, f.output, f.size, f.sub, f.cell, fun id b h => ?_, fun id u h => ?_⟩, f.frame, fun id b h => f.own id b (Cx.cut_blk h).2, f.new⟩
  · simp only [Cx.cut, if_pos (hb id b h)]
    exact f.bx id b h
  · obtain ⟨u', h1, h2⟩ := f.lg id u h
    exact ⟨u', by simp only [Cx.cut, if_pos (hl id u h)]; exact h1, h2⟩
theorem TA.scrub {C : Cx} {w : World} {a : Act} : ∀ (l : List Tmp) {ts : List D}, TA C w ts a → TA C w (scrub l ts) a
  | [], _, h => h
  | t :: r, ts, h => by
    refine TA.scrub r ⟨?_, h.defers⟩
    cases ht : a.tmps.toList[t]? with
    | none =>
      have hlen := h.rd.len
      rw [List.getElem?_eq_none_iff] at ht
      rw [List.set_eq_of_length_le (by omega)]
      exact h.rd
    | some v =>
      have := RdL.set (C := C) (w := w) (d := .any) (v := v) trivial h.rd t
      have e : a.tmps.toList.set t v = a.tmps.toList := by
        obtain ⟨hlt, rfl⟩ := List.getElem?_eq_some_iff.1 ht
        exact List.set_getElem_self hlt
      rwa [e] at this
def loopKey (c : Code) : Nat := match allDsts c with | t :: _ => t | [] => 0
def untag (m : Nat) : D → D
  | .sl (some id) sz ds => if id < m then .sl (some id) sz ds else .sl none sz ds
  | d => d
def untagC (m : Nat) : Cell → Cell
  | .box t ds => .box t (ds.map (untag m))
  | c => c
def untagAll (m : Nat) (ts : List D) (h : H) : List D × H := (ts.map (untag m), h.map (untagC m))
theorem untag_rd {C : Cx} {w : World} {m : Nat} {d : D} {v : Value} (h : Rd C w d v) : Rd C w (untag m d) v := by
  unfold untag
  split
  · split
    · exact h
    · obtain ⟨h1, h2, h3⟩ := h
      exact ⟨h1, h2, fun id e => by cases e⟩
  · exact h
theorem untag_leaf {m : Nat} {d : D} : leafD (untag m d) = leafD d := by
  unfold untag
  split
  · split <;> rfl
  · rfl
theorem untag_rdL {C : Cx} {w : World} {m : Nat} : ∀ {ds : List D} {vs : List Value}, RdL C w ds vs → RdL C w (ds.map (untag m)) vs
  | [], _, h => h
  | _ :: _, _, ⟨v, rest, e, h1, h2⟩ => ⟨v, rest, e, untag_rd h1, untag_rdL h2⟩
theorem Sim.weak {C : Cx} {w : World} {h h' : H} (s : Sim C h w) (hl : h'.length = h.length) (hb : ∀ (id : Nat) (t : TypeId) (ds' : List D), h'[id]? = some (Cell.box t ds') → ∃ ds, h[id]? = some (Cell.box t ds) ∧ ∀ vs, RdL C w ds vs → RdL C w ds' vs) (hg : ∀ (id : Nat) (e : TypeId) (sz n : Nat), h'[id]? = some (Cell.log e sz n) → h[id]? = some (Cell.log e sz n)) (hk : ∀ (id b : Nat) (P : Obj → Prop), h'[id]? = some (Cell.keep b P) → h[id]? = some (Cell.keep b P)) : Sim C h' w := by
  refine ⟨s.S, fun id t ds e => ?_, fun id e sz n e' => s.log id e sz n (hg _ _ _ _ e'), s.lt, fun id b hb => ?_, fun id u hu => ?_, s.inj, s.one, fun id b P e => s.keep id b P (hk _ _ _ e)⟩
  · obtain ⟨ds0, e0, hw⟩ := hb id t ds e
    obtain ⟨b, vs, h1, h2, h3, h4, h5⟩ := s.box id _ _ e0
    exact ⟨b, vs, h1, h2, hw _ h3, h4, h5⟩
  · rw [hl]; exact s.idb id b hb
  · rw [hl]; exact s.idl id u hu
theorem untagAll_ok {C : Cx} {w : World} {m : Nat} {ts : List D} {h : H} {a : Act} (s : Sim C h w) (ta : TA C w ts a) : Sim C (untagAll m ts h).2 w ∧ TA C w (untagAll m ts h).1 a := by
  refine ⟨s.weak (by simp [untagAll]) (fun id t ds e => ?_) (fun id e sz n e' => ?_) (fun id b P e => ?_), ⟨untag_rdL ta.rd, ta.defers⟩⟩
  · simp only [untagAll] at e
    rw [List.getElem?_map, Option.map_eq_some_iff] at e
    obtain ⟨c, hc, e⟩ := e
    cases c with
    | log => cases e
    | dead => cases e
    | keep => cases e
    | box t' ds' =>
      simp only [untagC, Cell.box.injEq] at e
      obtain ⟨rfl, rfl⟩ := e
      exact ⟨_, hc, fun vs h => untag_rdL h⟩
  · simp only [untagAll] at e'
    rw [List.getElem?_map, Option.map_eq_some_iff] at e'
    obtain ⟨c, hc, e'⟩ := e'
    cases c with
    | box => cases e'
    | dead => cases e'
    | keep => cases e'
    | log e0 sz0 n0 =>
      simp only [untagC, Cell.log.injEq] at e'
      obtain ⟨rfl, rfl, rfl⟩ := e'
      exact hc
  · simp only [untagAll] at e
    rw [List.getElem?_map, Option.map_eq_some_iff] at e
    obtain ⟨c, hc, e⟩ := e
    cases c with
    | box => cases e
    | dead => cases e
    | log => cases e
    | keep b0 P0 => cases e; exact hc
/-- A slice that is nil, read as a row of no elements. -/
def nilRow (sz : Nat) : D → D
  | .raw (.slice none 0 0) => .sl none sz []
  | d => d
theorem nilRow_rd {C : Cx} {w : World} {sz : Nat} {d : D} {v : Value} (h : Rd C w d v) : Rd C w (nilRow sz d) v := by
  unfold nilRow
  split
  · simp only [Rd] at h
    subst h
    exact ⟨⟨none, 0, rfl, Nat.le_refl _, Nat.zero_le _⟩, fun h => absurd h (by simp), fun id e => by cases e⟩
  · exact h
theorem modify_rdL {C : Cx} {w : World} {f : D → D} (hf : ∀ d v, Rd C w d v → Rd C w (f d) v) : ∀ {ds : List D} {vs : List Value} (j : Nat), RdL C w ds vs → RdL C w (ds.modify j f) vs
  | [], _, _, h => by simpa using h
  | d :: ds, _, 0, ⟨v, rest, e, h1, h2⟩ => by
    rw [List.modify_zero_cons]
    exact ⟨v, rest, e, hf _ _ h1, h2⟩
  | d :: ds, _, j + 1, ⟨v, rest, e, h1, h2⟩ => by
    rw [List.modify_succ_cons]
    exact ⟨v, rest, e, h1, modify_rdL hf j h2⟩
def boxAt (j sz : Nat) : Cell → Cell
  | .box t ds => .box t (ds.modify j (nilRow sz))
  | c => c
structure Un where
  boxes : List (Nat × Nat × Nat) := []
  tmps : List (Nat × Nat) := []
  keep : Option (List Nat) := none
def keepT (l : List Nat) : Nat → List D → List D
  | _, [] => []
  | i, d :: r => (if l.contains i = true then d else .any) :: keepT l (i + 1) r
theorem keepT_rdL {C : Cx} {w : World} {l : List Nat} : ∀ {ds : List D} {vs : List Value} (i : Nat), RdL C w ds vs → RdL C w (keepT l i ds) vs
  | [], _, _, h => h
  | _ :: _, _, i, ⟨v, rest, e, h1, h2⟩ => by
    refine ⟨v, rest, e, ?_, keepT_rdL (i + 1) h2⟩
    split
    · exact h1
    · trivial
def keepO (o : Option (List Nat)) (ts : List D) : List D :=
  match o with
  | some l => keepT l 0 ts
  | none => ts
theorem keepO_ok {C : Cx} {w : World} {a : Act} {o : Option (List Nat)} {ts : List D} (h : TA C w ts a) : TA C w (keepO o ts) a := by
  unfold keepO
  split
  · exact ⟨keepT_rdL 0 h.rd, h.defers⟩
  · exact h
def unTmps : List (Nat × Nat) → List D → List D
  | [], ts => ts
  | (t, sz) :: r, ts => unTmps r (ts.modify t (nilRow sz))
def unBoxes : List (Nat × Nat × Nat) → H → H
  | [], h => h
  | (id, j, sz) :: r, h => unBoxes r (h.modify id (boxAt j sz))
def unAll (u : Un) (m : Nat) (ts : List D) (h : H) : List D × H := (unTmps u.tmps ((keepO u.keep ts).map (untag m)), unBoxes u.boxes (h.map (untagC m)))
theorem unTmps_ok {C : Cx} {w : World} {a : Act} : ∀ (l : List (Nat × Nat)) {ts : List D}, TA C w ts a → TA C w (unTmps l ts) a
  | [], _, h => h
  | (t, sz) :: r, ts, h => unTmps_ok r ⟨modify_rdL (fun _ _ h => nilRow_rd h) t h.rd, h.defers⟩
theorem unBoxes_ok {C : Cx} {w : World} : ∀ (l : List (Nat × Nat × Nat)) {h : H}, Sim C h w → Sim C (unBoxes l h) w
  | [], _, s => s
  | (id, j, sz) :: r, h, s => by
    refine unBoxes_ok r (s.weak (by simp) (fun i t ds e => ?_) (fun i e sz' n e' => ?_) (fun i b P e => ?_))
    · rw [List.getElem?_modify] at e
      obtain ⟨c, hc, e⟩ := Option.map_eq_some_iff.1 e
      split at e
      · cases c with
        | log => cases e
        | dead => cases e
        | keep => cases e
        | box t' ds' =>
          simp only [boxAt, Cell.box.injEq] at e
          obtain ⟨rfl, rfl⟩ := e
          exact ⟨_, hc, fun vs h => modify_rdL (fun _ _ h => nilRow_rd h) j h⟩
      · cases e
        exact ⟨_, hc, fun vs h => h⟩
    · rw [List.getElem?_modify] at e'
      obtain ⟨c, hc, e'⟩ := Option.map_eq_some_iff.1 e'
      split at e'
      · cases c with
        | box => cases e'
        | dead => cases e'
        | keep => cases e'
        | log e0 sz0 n0 =>
          simp only [boxAt, Cell.log.injEq] at e'
          obtain ⟨rfl, rfl, rfl⟩ := e'
          exact hc
      · cases e'
        exact hc
    · rw [List.getElem?_modify] at e
      obtain ⟨c, hc, e⟩ := Option.map_eq_some_iff.1 e
      split at e
      · cases c with
        | box => cases e
        | dead => cases e
        | log => cases e
        | keep b0 P0 => cases e; exact hc
      · cases e
        exact hc
theorem unAll_ok {C : Cx} {w : World} {u : Un} {m : Nat} {ts : List D} {h : H} {a : Act} (s : Sim C h w) (ta : TA C w ts a) : Sim C (unAll u m ts h).2 w ∧ TA C w (unAll u m ts h).1 a := by
  obtain ⟨k1, k2⟩ := untagAll_ok (m := m) s (keepO_ok (o := u.keep) ta)
  exact ⟨unBoxes_ok _ k1, unTmps_ok _ k2⟩
def aexec (P : Program) (E : Env) (n : Nat) : Code → List D → H → Res
  | .skip, ts, h => some (.normal, ts, h)
  | .region _ ops draw, ts, h => match (if draw = true then E.dr ops.toList ts h else alist P E.call ops ops.toList ts h) with
    | some (ts', h') => some (.normal, ts', h')
    | none => none
  | .seq a b, ts, h => match aexec P E n a ts h with
    | some (.normal, ts', h') => aexec P E n b ts' h'
    | r => r
  | .cond c x y, ts, h => match dv ts c with
    | .raw (.bool t) => if t = true then aexec P E n x ts h else aexec P E n y ts h
    | _ => none
  | .block id c, ts, h => match aexec P E n c ts h with
    | some (.exit j, ts', h') => if j = id then some (.normal, ts', h') else some (.exit j, ts', h')
    | r => r
  | .loop c, ts, h => aloop (fun ts' h' => aexec P E n c (E.tidy (loopKey c) h.length (scrub (dstsOf c) ts') h').1 (gc h.length (E.tidy (loopKey c) h.length (scrub (dstsOf c) ts') h').1 (E.tidy (loopKey c) h.length (scrub (dstsOf c) ts') h').2)) n ts h
  | .exit id, ts, h => some (.exit id, ts, h)
  | .label _, ts, h => some (.normal, ts, h)
  | .ret, ts, h => some (.ret, ts, h)
  | _, _, _ => none
structure EnvOk (P : Program) (E : Env) : Prop where
  call : CallOk P E.call
  tidy : ∀ k m ts h C w a, Sim C h w → TA C w ts a → Sim C (E.tidy k m ts h).2 w ∧ TA C w (E.tidy k m ts h).1 a
  dr : ∀ l ts h ts' h', E.dr l ts h = some (ts', h') → ∀ (id : Nat) (C : Cx) (w : World) (a : Act) (Q : Exit → Act → World → Prop), Sim C h w → TA C w ts a →
    (∀ a' C' w', Fw C w C' w' → Sim C' h' w' → TA C' w' ts' a' → Q .normal a' w') → (Code.region id l.toArray true).wp P Q a w
theorem aloop_sound {c : Code} {Q : Exit → Act → World → Prop} {step : List D → H → Res} {m : Nat} {dl : List Tmp} {tidy : List D → H → List D × H} (htd : ∀ ts h C w a, Sim C h w → TA C w ts a → Sim C (tidy ts h).2 w ∧ TA C w (tidy ts h).1 a) {C0 : Cx} {w0 : World} (hb0 : ∀ id b, C0.bx id = some b → id < m) (hl0 : ∀ id u, C0.lg id = some u → id < m)
    (hc : ∀ {ts h ex ts' h'}, step ts h = some (ex, ts', h') → ∀ {C : Cx} {w : World} {a : Act} {Q : Exit → Act → World → Prop}, Sim C h w → TA C w ts a → (∀ a' C' w', Fw C w C' w' → Sim C' h' w' → TA C' w' ts' a' → Q ex.ex a' w') → c.wp P Q a w) :
    ∀ (n : Nat) {ts h ex ts' h'}, aloop (fun ts' h' => step (tidy (scrub dl ts') h').1 (gc m (tidy (scrub dl ts') h').1 (tidy (scrub dl ts') h').2)) n ts h = some (ex, ts', h') → ∀ {C : Cx} {w : World} {a : Act}, Fw C0 w0 C w → Sim C h w → TA C w ts a → (∀ a' C' w', Fw C0 w0 C' w' → Sim C' h' w' → TA C' w' ts' a' → Q ex.ex a' w') → Code.rounds P c Q n a w
  | 0, _, _, _, _, _, e, _, _, _, _, _, _, _ => by cases e
  | n + 1, ts, h, ex, ts', h', e, C, w, a, f0, s, ta, hk => by
    simp only [aloop] at e
    unfold Code.rounds
    obtain ⟨s0, ta1⟩ := htd _ _ _ _ _ s (ta.scrub dl)
    generalize tidy (scrub dl ts) h = q at *
    have key : ∃ C1, Fw C0 w0 C1 w ∧ Sim C1 (gc m q.1 q.2) w ∧ TA C1 w q.1 a := by
      unfold gc
      split
      · rename_i hg
        exact ⟨C.cut m, f0.cut hb0 hl0, s0.cut hg.2, ⟨ta1.rd.cut _ hg.1, ta1.defers⟩⟩
      · exact ⟨C, f0, s0, ta1⟩
    obtain ⟨C1, f1, s1, t1⟩ := key
    cases hst : step q.1 (gc m q.1 q.2) with
    | none => rw [hst] at e; cases e
    | some r =>
      obtain ⟨ex1, ts1, h1⟩ := r
      rw [hst] at e
      refine hc hst s1 t1 fun a2 C2 w2 f2 s2 t2 => ?_
      cases ex1 with
      | normal =>
        simp only at e
        exact aloop_sound htd hb0 hl0 hc n e (f1.trans f2) s2 t2 hk
      | exit j =>
        simp only [Option.some.injEq, Prod.mk.injEq] at e
        obtain ⟨rfl, rfl, rfl⟩ := e
        exact hk a2 C2 w2 (f1.trans f2) s2 t2
      | ret =>
        simp only [Option.some.injEq, Prod.mk.injEq] at e
        obtain ⟨rfl, rfl, rfl⟩ := e
        exact hk a2 C2 w2 (f1.trans f2) s2 t2
theorem aexec_sound {E : Env} (hE : EnvOk P E) (n : Nat) : ∀ (c : Code) {ts h ex ts' h'}, aexec P E n c ts h = some (ex, ts', h') → ∀ {C : Cx} {w : World} {a : Act} {Q : Exit → Act → World → Prop}, Sim C h w → TA C w ts a →
    (∀ a' C' w', Fw C w C' w' → Sim C' h' w' → TA C' w' ts' a' → Q ex.ex a' w') → c.wp P Q a w := by
  intro c
  induction c with
  | skip =>
    intro ts h ex ts' h' e C w a Q s ta hk
    simp only [aexec, Option.some.injEq, Prod.mk.injEq] at e
    obtain ⟨rfl, rfl, rfl⟩ := e
    exact wp_skip (hk a C w (Fw.refl _ _) s ta)
  | region id ops draw =>
    intro ts h ex ts' h' e C w a Q s ta hk
    simp only [aexec] at e
    split at e
    · rename_i ts1 h1 hr
      simp only [Option.some.injEq, Prod.mk.injEq] at e
      obtain ⟨rfl, rfl, rfl⟩ := e
      cases draw with
      | true =>
        rw [if_pos rfl] at hr
        have := hE.dr _ _ _ _ _ hr id C w a Q s ta hk
        simpa using this
      | false =>
        rw [if_neg (by simp)] at hr
        exact wp_region_list (alist_sound hE.call hr s ta hk)
    · cases e
  | seq x y ihx ihy =>
    intro ts h ex ts' h' e C w a Q s ta hk
    simp only [aexec] at e
    refine wp_seq ?_
    cases hx : aexec P E n x ts h with
    | none => rw [hx] at e; cases e
    | some r =>
      obtain ⟨ex1, ts1, h1⟩ := r
      rw [hx] at e
      refine ihx hx s ta fun a1 C1 w1 f1 s1 t1 => ?_
      cases ex1 with
      | normal =>
        simp only at e
        exact ihy e s1 t1 fun a' C' w' f' s' t' => hk a' C' w' (f1.trans f') s' t'
      | exit j =>
        simp only [Option.some.injEq, Prod.mk.injEq] at e
        obtain ⟨rfl, rfl, rfl⟩ := e
        exact hk a1 C1 w1 f1 s1 t1
      | ret =>
        simp only [Option.some.injEq, Prod.mk.injEq] at e
        obtain ⟨rfl, rfl, rfl⟩ := e
        exact hk a1 C1 w1 f1 s1 t1
  | cond c x y ihx ihy =>
    intro ts h ex ts' h' e C w a Q s ta hk
    simp only [aexec] at e
    split at e
    · rename_i t hc
      have hcv := ta.reads c
      rw [hc] at hcv
      simp only [Rd] at hcv
      refine wp_cond_split hcv (fun ht => ?_) fun ht => ?_
      · subst ht
        rw [if_pos rfl] at e
        exact ihx e s ta hk
      · subst ht
        rw [if_neg (by simp)] at e
        exact ihy e s ta hk
    · cases e
  | block id c ih =>
    intro ts h ex ts' h' e C w a Q s ta hk
    simp only [aexec] at e
    refine wp_block ?_
    cases hx : aexec P E n c ts h with
    | none => rw [hx] at e; cases e
    | some r =>
      obtain ⟨ex1, ts1, h1⟩ := r
      rw [hx] at e
      refine ih hx s ta fun a1 C1 w1 f1 s1 t1 => ?_
      cases ex1 with
      | normal =>
        simp only [Option.some.injEq, Prod.mk.injEq] at e
        obtain ⟨rfl, rfl, rfl⟩ := e
        exact hk a1 C1 w1 f1 s1 t1
      | exit j =>
        simp only at e
        by_cases hj : j = id
        · rw [if_pos hj] at e
          simp only [Option.some.injEq, Prod.mk.injEq] at e
          obtain ⟨rfl, rfl, rfl⟩ := e
          simp only [AExit.ex, Exit.inBlock, if_pos hj]
          exact hk a1 C1 w1 f1 s1 t1
        · rw [if_neg hj] at e
          simp only [Option.some.injEq, Prod.mk.injEq] at e
          obtain ⟨rfl, rfl, rfl⟩ := e
          simp only [AExit.ex, Exit.inBlock, if_neg hj]
          exact hk a1 C1 w1 f1 s1 t1
      | ret =>
        simp only [Option.some.injEq, Prod.mk.injEq] at e
        obtain ⟨rfl, rfl, rfl⟩ := e
        exact hk a1 C1 w1 f1 s1 t1
  | loop c ih =>
    intro ts h ex ts' h' e C w a Q s ta hk
    simp only [aexec] at e
    exact wp_loop_rounds n (aloop_sound (step := aexec P E n c) (tidy := E.tidy (loopKey c) h.length) (fun ts h C w a => hE.tidy _ _ ts h C w a) s.idb s.idl (fun {_ _ _ _ _} e' {_ _ _ _} s' ta' hk' => ih e' s' ta' hk') n e (Fw.refl C w) s ta hk)
  | exit id =>
    intro ts h ex ts' h' e C w a Q s ta hk
    simp only [aexec, Option.some.injEq, Prod.mk.injEq] at e
    obtain ⟨rfl, rfl, rfl⟩ := e
    exact wp_exit (hk a C w (Fw.refl _ _) s ta)
  | label l =>
    intro ts h ex ts' h' e C w a Q s ta hk
    simp only [aexec, Option.some.injEq, Prod.mk.injEq] at e
    obtain ⟨rfl, rfl, rfl⟩ := e
    exact wp_label (hk a C w (Fw.refl _ _) s ta)
  | ret =>
    intro ts h ex ts' h' e C w a Q s ta hk
    simp only [aexec, Option.some.injEq, Prod.mk.injEq] at e
    obtain ⟨rfl, rfl, rfl⟩ := e
    exact wp_ret (hk a C w (Fw.refl _ _) s ta)
  | rangeFunc f params assign body iha ihb => intro ts h ex ts' h' e; simp [aexec] at e
  | scope body ih => intro ts h ex ts' h' e; simp [aexec] at e
  | goto l => intro ts h ex ts' h' e; simp [aexec] at e
  | refuse why => intro ts h ex ts' h' e; simp [aexec] at e
/-! ### A function -/
def resD (P : Program) (h : H) (ts : List D) : List ResultVar → Option (List D)
  | [] => some []
  | .tmp t :: r => match resD P h ts r with
    | some l => some (ts.getD t .any :: l)
    | none => none
  | .cell t ty :: r => match loadD P h ty (ts.getD t .any), resD P h ts r with
    | some d, some l => some (d :: l)
    | _, _ => none
def oneD : List D → D
  | [d] => d
  | l => .tup l
def aret (P : Program) (fn : Func) : Res → Option (D × H)
  | some (.normal, ts, h) | some (.ret, ts, h) => match resD P h ts fn.results.toList with
    | some l => some (oneD l, h)
    | none => none
  | _ => none
def afun (P : Program) (E : Env) (n : Nat) (k : FuncId) (ds : List D) (h : H) : Option (D × H) :=
  match P.funcs[k]? with
  | some fn => match fn.body with
    | some c => if (fn.name == "runtime.NumGoroutine") = false then aret P fn (aexec P E n c (ds ++ List.replicate (fn.ntmps - ds.length) (.raw undef)) h) else none
    | none => none
  | none => none
def resOf (tmps : Array Value) : ResultVar → Sem Value
  | .tmp t => Pure.pure (tmps.getD t undef)
  | .cell t ty => do loadVar ty (← asAddr (tmps.getD t undef))
theorem resD_sound {C : Cx} {h : H} {w : World} (s : Sim C h w) {ts : List D} {a : Act} (ta : TA C w ts a) : ∀ {rs : List ResultVar} {l : List D}, resD P h ts rs = some l →
    ∃ vs : List Value, (rs.mapM (resOf a.tmps)).run P w = .ok vs w ∧ RdL C w l vs
  | [], l, e => by
    simp only [resD, Option.some.injEq] at e
    subst e
    exact ⟨[], rfl, rfl⟩
  | .tmp t :: r, l, e => by
    simp only [resD] at e
    split at e
    · rename_i l' h1
      cases e
      obtain ⟨vs, k1, k2⟩ := resD_sound s ta h1
      have := ta.reads (.tmp t)
      simp only [dv, Act.eval] at this
      refine ⟨_ :: vs, ?_, _, vs, rfl, this, k2⟩
      rw [List.mapM_cons]
      have h0 : (resOf a.tmps (.tmp t)).run P w = .ok (a.tmps.getD t undef) w := rfl
      simp only [Sem.run_bind, Sem.run_pure, Result.andThen_ok, h0, k1]
    · cases e
  | .cell t ty :: r, l, e => by
    simp only [resD] at e
    split at e
    · rename_i d l' h0 h1
      cases e
      obtain ⟨vs, k1, k2⟩ := resD_sound s ta h1
      have hr := ta.reads (.tmp t)
      simp only [dv, Act.eval] at hr
      obtain ⟨v, j1, j2⟩ := loadD_sound s hr h0
      refine ⟨v :: vs, ?_, v, vs, rfl, j2, k2⟩
      rw [List.mapM_cons]
      simp only [Instr.loadAt, Sem.run_bind] at j1
      have : ∃ p, a.tmps.getD t undef = .pointer (some p) := by
        cases hv : a.tmps.getD t undef with
        | pointer p => cases p with
          | some p => exact ⟨p, rfl⟩
          | none => rw [hv] at j1; simp [Instr.sureAddr, Result.andThen] at j1
        | _ => rw [hv] at j1; simp [Instr.sureAddr, Result.andThen] at j1
      obtain ⟨p, hp⟩ := this
      rw [hp] at j1
      simp only [Instr.sureAddr, Sem.run_pure, Result.andThen_ok] at j1
      have h2 : (resOf a.tmps (.cell t ty)).run P w = .ok v w := by
        show ((do loadVar ty (← asAddr (a.tmps.getD t undef))) : Sem Value).run P w = _
        rw [hp]
        simp only [asAddr, Sem.run_bind, Sem.run_pure, Result.andThen_ok, j1]
      simp only [Sem.run_bind, Sem.run_pure, Result.andThen_ok, h2, k1]
    · cases e
theorem run_results {w : World} {fn : Func} {tmps : Array Value} {vs : List Value} (h : (fn.results.toList.mapM (resOf tmps)).run P w = .ok vs w) : (results fn tmps).run P w = .ok (if h : vs.toArray.size = 1 then vs.toArray[0] else .tuple vs.toArray) w := by
  have e : results fn tmps = (do
      let vs ← fn.results.mapM (resOf tmps)
      Pure.pure (if h : vs.size = 1 then vs[0] else .tuple vs)) := rfl
  rw [e, Array.mapM_eq_mapM_toList]
  simp [h]
theorem oneD_rd {C : Cx} {w : World} {l : List D} {vs : List Value} (r : RdL C w l vs) : Rd C w (oneD l) (if h : vs.toArray.size = 1 then vs.toArray[0] else .tuple vs.toArray) := by
  cases l with
  | nil =>
    simp only [RdL] at r
    subst r
    exact ⟨[], rfl, rfl⟩
  | cons d l =>
    cases l with
    | nil =>
      obtain ⟨v, rest, rfl, h1, h2⟩ := r
      simp only [RdL] at h2
      subst h2
      exact h1
    | cons d' l' =>
      have hl := r.len
      have : ¬ vs.toArray.size = 1 := by simp at hl ⊢; omega
      rw [dif_neg this]
      exact ⟨vs, rfl, r⟩
theorem afun_sound {E : Env} (hE : EnvOk P E) {n : Nat} {k : FuncId} {ds : List D} {h h' : H} {d : D} (e : afun P E n k ds h = some (d, h')) : Callable P k ∧ ∀ C w args, Sim C h w → RdL C w ds args → Ret P C w k args d h' := by
  unfold afun at e
  split at e
  · rename_i fn hf
    split at e
    · rename_i c hb
      split at e
      · rename_i hname
        refine ⟨⟨fn, c, hf, hname, hb⟩, fun C w args s r => ?_⟩
        unfold aret at e
        have main : ∀ {ex ts' h1}, aexec P E n c (ds ++ List.replicate (fn.ntmps - ds.length) (.raw undef)) h = some (ex, ts', h1) → (ex = .normal ∨ ex = .ret) → (match resD P h1 ts' fn.results.toList with | some l => some (oneD l, h1) | none => none) = some (d, h') → Ret P C w k args d h' := by
          intro ex ts' h1 hx hex hres
          split at hres
          · rename_i l hl
            cases hres
            refine calls_of_wp hf hb (aexec_sound hE n c hx s (a := { tmps := args.toArray ++ Array.replicate (fn.ntmps - args.toArray.size) undef, defers := [] }) ⟨?_, rfl⟩ fun a' C' w' f' s' t' => ?_)
            · have hl := r.len
              simp only [Array.toList_append, Array.toList_replicate, List.size_toArray, ← hl]
              refine r.app ?_
              have := RdL.raws C w (List.replicate (fn.ntmps - ds.length) undef)
              simpa using this
            · obtain ⟨vs, k1, k2⟩ := resD_sound s' t' hl
              have hpost : bodyPost P fn (fun e w'' => ∃ v C'', e = .returned v ∧ Fw C w C'' w'' ∧ Sim C'' h' w'' ∧ Rd C'' w'' (oneD l) v) .ret a' w' := by
                refine ⟨t'.defers, _, ?_, _, C', rfl, f', s', oneD_rd k2⟩
                exact run_results k1
              rcases hex with rfl | rfl
              · exact hpost
              · exact hpost
          · cases hres
        split at e
        · rename_i ts' h1 hx
          exact main hx (.inl rfl) e
        · rename_i ts' h1 hx
          exact main hx (.inr rfl) e
        · cases e
      · cases e
    · cases e
  · cases e
end
end Go.Proofs.Ytbfmaicoefefaaa.Pv

/- The evaluator over data (see NOTES, 'Pv'): part Pv1. -/
import Derived.Below
import Derived.Handy
namespace Go.Proofs.Ytclhomkgphdagaa.Pv
open Go Go.RowKit
inductive D where
  | any
  | raw (v : Value)
  | agg (ds : List D)
  | tup (ds : List D)
  | sl (tag : Option Nat) (sz : Nat) (ds : List D)
  | bx (id off : Nat)
  | ms (id off n : Nat)
  | sln (n : Nat)
  | pe (d : D) (off : Nat)
  | fn (f : Fn) (first cap : List D)
  | ifc (t : TypeId) (d : D)
  deriving Inhabited
structure Cx where
  S : Nat → Nat → Prop
  bx : Nat → Option Nat
  lg : Nat → Option Value
def lenV : Value → Nat | .slice _ n _ => n | _ => 0
mutual
def Rd (C : Cx) (w : World) : D → Value → Prop
  | .any, _ => True
  | .raw u, v => v = u
  | .agg ds, v => ∃ vs : List Value, v = .agg vs.toArray ∧ RdL C w ds vs
  | .tup ds, v => ∃ vs : List Value, v = .tuple vs.toArray ∧ RdL C w ds vs
  | .sl tag sz ds, v =>
    (∃ a cap, v = .slice a ds.length cap ∧ ds.length ≤ cap ∧ cap ≤ maxLen) ∧
    (0 < ds.length → ∃ b off cap, v = .slice (some ⟨b, off, none⟩) ds.length cap ∧ (∀ i, i < ds.length * sz → C.S b (off + i)) ∧ RdE C w sz ds (fun i => w.cell? ⟨b, off + i, none⟩)) ∧
    (∀ id, tag = some id → ∃ u, C.lg id = some u ∧ ds.length ≤ lenV u ∧ (ds.length = lenV u → v = u))
  | .bx id off, v => ∃ b, C.bx id = some b ∧ v = .pointer (some ⟨b, off, none⟩)
  | .ms id off n, v => ∃ b cap, C.bx id = some b ∧ v = .slice (some ⟨b, off, none⟩) n cap ∧ n ≤ cap ∧ cap ≤ maxLen
  | .pe d off, v => ∃ b o u, v = .pointer (some ⟨b, o + off, none⟩) ∧ Rd C w d u ∧ ∀ i (h : i < u.cells.size), C.S b (o + i) ∧ w.cell? ⟨b, o + i, none⟩ = some u.cells[i]
  | .sln n, v => ∃ a cap, v = .slice a n cap
  | .fn f first cap, v => ∃ vs us : List Value, v = .func f vs.toArray us.toArray ∧ RdL C w first vs ∧ RdL C w cap us
  | .ifc t d, v => ∃ u, v = .iface t u ∧ Rd C w d u
def RdL (C : Cx) (w : World) : List D → List Value → Prop
  | [], vs => vs = []
  | d :: ds, vs => ∃ v rest, vs = v :: rest ∧ Rd C w d v ∧ RdL C w ds rest
def RdE (C : Cx) (w : World) (sz : Nat) : List D → (Nat → Option Value) → Prop
  | [], _ => True
  | d :: ds, f => (∃ u, Rd C w d u ∧ u.cells.size = sz ∧ (∀ c ∈ u.cells.toList, c.oneCell' = true) ∧ ∀ i (h : i < u.cells.size), f i = some u.cells[i]) ∧ RdE C w sz ds (fun i => f (sz + i))
end
/-- The world has moved on, and the reading with it. -/
structure Ev (C : Cx) (w : World) (C' : Cx) (w' : World) : Prop where
  os : w'.os = w.os
  tape : w'.tape = w.tape
  output : w'.output = w.output
  size : w.heap.size ≤ w'.heap.size
  sub : ∀ b o, C.S b o → C'.S b o
  cell : ∀ b o, C.S b o → w'.cell? ⟨b, o, none⟩ = w.cell? ⟨b, o, none⟩
  bx : ∀ id b, C.bx id = some b → C'.bx id = some b
  lg : ∀ id u, C.lg id = some u → ∃ u', C'.lg id = some u' ∧ (u' = u ∨ lenV u < lenV u')
mutual
theorem Rd.mono {C C' : Cx} {w w' : World} (h : Ev C w C' w') : ∀ (d : D) (v : Value), Rd C w d v → Rd C' w' d v
  | .any, _, _ => trivial
  | .raw _, _, e => e
  | .agg ds, v, ⟨vs, e, r⟩ => ⟨vs, e, RdL.mono h ds vs r⟩
  | .tup ds, v, ⟨vs, e, r⟩ => ⟨vs, e, RdL.mono h ds vs r⟩
  | .sl tag sz ds, v, ⟨h1, h2, h3⟩ => by
    refine ⟨h1, fun hp => ?_, fun id e => ?_⟩
    · obtain ⟨b, off, cap, e, hs, hr⟩ := h2 hp
      refine ⟨b, off, cap, e, fun i hi => h.sub _ _ (hs i hi), ?_⟩
      exact RdE.mono h sz ds _ _ hr (fun i hi => h.cell _ _ (hs i hi))
    · obtain ⟨u, hu, hle, heq⟩ := h3 id e
      obtain ⟨u', hu', hor⟩ := h.lg id u hu
      refine ⟨u', hu', ?_, ?_⟩
      · rcases hor with rfl | hlt
        · exact hle
        · omega
      · intro e'
        rcases hor with rfl | hlt
        · exact heq e'
        · omega
  | .bx id off, v, ⟨b, hb, e⟩ => ⟨b, h.bx id b hb, e⟩
  | .ms id off n, v, ⟨b, cap, hb, e⟩ => ⟨b, cap, h.bx id b hb, e⟩
  | .pe d off, v, ⟨b, o, u, e, r, hc⟩ => ⟨b, o, u, e, Rd.mono h d u r, fun i hi => ⟨h.sub _ _ (hc i hi).1, (h.cell _ _ (hc i hi).1).trans (hc i hi).2⟩⟩
  | .sln n, v, e => e
  | .fn f first cap, v, ⟨vs, us, e, r1, r2⟩ => ⟨vs, us, e, RdL.mono h first vs r1, RdL.mono h cap us r2⟩
  | .ifc t d, v, ⟨u, e, r⟩ => ⟨u, e, Rd.mono h d u r⟩
theorem RdL.mono {C C' : Cx} {w w' : World} (h : Ev C w C' w') : ∀ (ds : List D) (vs : List Value), RdL C w ds vs → RdL C' w' ds vs
  | [], _, e => e
  | d :: ds, _, ⟨v, rest, e, r1, r2⟩ => ⟨v, rest, e, Rd.mono h d v r1, RdL.mono h ds rest r2⟩
theorem RdE.mono {C C' : Cx} {w w' : World} (h : Ev C w C' w') (sz : Nat) : ∀ (ds : List D) (f g : Nat → Option Value), RdE C w sz ds f → (∀ i, i < ds.length * sz → g i = f i) → RdE C' w' sz ds g
  | [], _, _, _, _ => trivial
  | d :: ds, f, g, ⟨⟨u, r, e, ho, hf⟩, r2⟩, hg => by
    refine ⟨⟨u, Rd.mono h d u r, e, ho, fun i hi => ?_⟩, ?_⟩
    · rw [hg i (by rw [List.length_cons, Nat.add_mul, Nat.one_mul]; omega)]
      exact hf i hi
    · exact RdE.mono h sz ds _ _ r2 fun i hi => hg (sz + i) (by rw [List.length_cons, Nat.add_mul, Nat.one_mul]; omega)
end
end Go.Proofs.Ytclhomkgphdagaa.Pv

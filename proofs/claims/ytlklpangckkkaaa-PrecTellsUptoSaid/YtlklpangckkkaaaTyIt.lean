/- The program's iterator over a type's nodes (ty.nodes, its closure, ty.visit): what a range over it is handed, for every loop body. -/
import Derived.Test.YtlklpangckkkaaaTyN
import Derived.RangeFuncNested
import Derived.RangeFuncBound
import Derived.RangeFuncCalls
import Derived.RangeFuncLeaves
import Derived.Shelf.Abstract
import Derived.Shelf.RegionOpen
import Derived.OwnWalkIn
import Derived.TacticsInMore
import Derived.LoopNIn
import Derived.LoopIn
namespace Go.Proofs.Ytlklpangckkkaaa
open Go.RowKit Go.Shelf
attribute [local go_sem] Oper.semAt_some
/-- What a round is handed: a depth and a node with its five values, as they read in the world w0. -/
structure Nd (w0 : World) where
  d : Int
  t : Ty5
  v0 : Value
  v1 : Value
  v2 : Value
  v3 : Value
  v4 : Value
  h : TyIn w0 t v0 v1 v2 v3 v4
def Nd.key {w0 : World} (x : Nd w0) : Int × Ty5 := (x.d, x.t)
def Nd.vals {w0 : World} (x : Nd w0) : Array Value := #[.int .i64 x.d, .agg #[x.v0, x.v1, x.v2, x.v3, x.v4]]
mutual
/-- The nodes of a type, each with its depth, in the order in which they come. -/
def walkT (d : Int) : Ty5 → List (Int × Ty5)
  | .mk k n nm ls ks => (d, .mk k n nm ls ks) :: walkL (wrap64 (d + 1)) ks
def walkL (d : Int) : List Ty5 → List (Int × Ty5)
  | [] => []
  | t :: r => walkT d t ++ walkL d r
end
theorem walkL_app (d : Int) : ∀ a b : List Ty5, walkL d (a ++ b) = walkL d a ++ walkL d b
  | [], b => by simp [walkL]
  | t :: r, b => by
    rw [List.cons_append]
    simp only [walkL]
    rw [walkL_app d r b, List.append_assoc]
theorem walkL_step (d : Int) {ks : List Ty5} {j : Nat} (h : j < ks.length) : walkL d (ks.take (j + 1)) = walkL d (ks.take j) ++ walkT d (kAt ks j) := by
  rw [take_kAt h, walkL_app]
  simp [walkL]
theorem walkL_part (d : Int) (ks : List Ty5) (j : Nat) : walkL d (ks.take j) <+: walkL d ks := by
  have := walkL_app d (ks.take j) (ks.drop j)
  rw [List.take_append_drop] at this
  rw [this]
  exact List.prefix_append _ _
/-- What a round that goes on keeps: all below n0; and of the blocks of types all but those in S. -/
def KpS (n0 : Nat) (S : Nat → Prop) (A B : World) : Prop := Below n0 A B ∧ ∀ k vs fr, A.heap[k]? = some (.cells vs 25 fr) → ¬ S k → B.heap[k]? = some (.cells vs 25 fr)
theorem kpS_t {n0 : Nat} {S : Nat → Prop} {A B C : World} (h : KpS n0 S A B) (k : KpS n0 S B C) : KpS n0 S A C := ⟨h.1.trans k.1, fun i vs fr hi hs => k.2 i vs fr (h.2 i vs fr hi hs) hs⟩
theorem kpS_b {n0 : Nat} {S : Nat → Prop} {w : World} (hn : n0 ≤ w.heap.size) (W : World) (l : Nat) (o o' : Obj) (hl : w.heap.size ≤ l) (h : W.heap[l]? = some o) (hc : o.isCells = false) (hw : o.isWalk = false) : KpS n0 S W (W.putObj l o') :=
  ⟨belowK_b hn W l o o' hl h hc hw, fun k vs fr hk _ => by
    by_cases e : k = l
    · subst e
      rw [h] at hk
      cases hk
      cases hc
    · exact (World.putObj_heap_other e).trans hk⟩
theorem KpS.refl (n0 : Nat) (S : Nat → Prop) (A : World) : KpS n0 S A A := ⟨Below.refl _ _, fun _ _ _ h _ => h⟩
/-- What lays blocks alone keeps. -/
theorem KpS.of_below {n0 : Nat} {S : Nat → Prop} {A B : World} (hn : n0 ≤ A.heap.size) (h : Below A.heap.size A B) : KpS n0 S A B := ⟨h.mono hn, fun k vs fr hk _ => (h.block k (Array.getElem?_eq_some_iff.1 hk).1).trans hk⟩
/-- A store into a box of S keeps. -/
theorem KpS.store {n0 : Nat} {S : Nat → Prop} (A : World) {b i : Nat} (hS : S b) (hn : n0 ≤ b) (v : Value) : KpS n0 S A (A.setCell ⟨b, i, none⟩ v) :=
  ⟨(Below.refl _ _).setCell (p := ⟨b, i, none⟩) hn v, fun k vs fr hk hs => (Below.heap_setCell _ _ _ _ (fun e => hs (by rw [e]; exact hS))).trans hk⟩
theorem keepsFrom_below {B : Nat} {A C : World} (h : Below A.heap.size A C) : KeepsFrom B A C := ⟨h.size, fun k o _ hk _ => (h.block k (Array.getElem?_eq_some_iff.1 hk).1).trans hk⟩
theorem box_cell {W : World} {B : Nat} {vs : Array Value} {t : TypeId} {i : Nat} {v : Value} (h : W.heap[B]? = some (.cells vs t (0, 0))) (hi : vs[i]? = some v) : W.cell? ⟨B, i, none⟩ = some v := by
  simp [World.cell?, h, hi]
/-- The five values' forms. -/
theorem TyIn.form {w : World} : ∀ {t : Ty5} {v0 v1 v2 v3 v4 : Value}, TyIn w t v0 v1 v2 v3 v4 → ∃ (k n : Int) (nm : ByteArray) (a : Option Addr) (l c : Nat) (a' : Option Addr) (l' c' : Nat), v0 = .int .i64 k ∧ v1 = .int .i64 n ∧ v2 = .string nm ∧ v3 = .slice a l c ∧ v4 = .slice a' l' c'
  | .mk k n nm ls ks, v0, v1, v2, v3, v4, h => by
    obtain ⟨h0, h1, ⟨h2, _⟩, ⟨_, _, h3⟩, _, h5⟩ := h
    obtain ⟨a, l, c, e3⟩ : ∃ a l c, v3 = .slice a l c := by
      rcases h3 with ⟨a, cap, rfl, _⟩ | ⟨b, off, cap, rfl, _⟩
      · exact ⟨_, _, _, rfl⟩
      · exact ⟨_, _, _, rfl⟩
    obtain ⟨a', l', c', e4⟩ : ∃ a l c, v4 = .slice a l c := by
      rcases h5 with ⟨a, cap, rfl, _⟩ | ⟨b, off, cap, rfl, _⟩
      · exact ⟨_, _, _, rfl⟩
      · exact ⟨_, _, _, rfl⟩
    exact ⟨_, _, _, _, _, _, _, _, _, h0, h1, h2, e3, e4⟩
theorem zip2 (T : Array Value) (p q : Nat) (a b : Value) : (#[p, q].zip #[a, b]).foldl (fun t x => t.setIfInBounds x.fst x.snd) T = (T.setIfInBounds p a).setIfInBounds q b := by
  simp
theorem room_of_none {F : Fence} (hd : F.depth = none) (k : Nat) : F.room k := fun d h => by rw [hd] at h; cases h
theorem roundIn_anyDepth {F : Fence} (hd : F.depth = none) {m m' : Nat} {P : Program} {l : Nat} {f : FuncId} {tmps : Array Value} {assign body : Code} {w : World} {R : Ending → World → Prop}
    (h : RoundIn F m P l f tmps assign body w R) : RoundIn F m' P l f tmps assign body w R := ⟨h.1, fun c cs _ => h.2 c cs (room_of_none hd _)⟩
theorem yieldAt_anyDepth {F : Fence} (hd : F.depth = none) {m : Nat} (m' : Nat) {P : Program} {l : Nat} {args : Array Value} {W : World} {R : Ending → World → Prop} (h : YieldAt F m P l args W R) : YieldAt F m' P l args W R := by
  obtain ⟨fn, tmps, assign, body, hy, hR⟩ := h
  exact ⟨fn, tmps, assign, body, hy, roundIn_anyDepth hd hR⟩
theorem depth_wide : Fence.wide.depth = none := rfl
end Go.Proofs.Ytlklpangckkkaaa

/- The evaluator over data (see NOTES, 'Pv'): part Pv2. -/
import Derived.Test.YtclhomkgphdagaaPv1
import Derived.Deep.MidRow
import Derived.Deep.AppendSrc
import Derived.Laws.CopyRow
import Derived.Laws.AppendOwn
namespace Go.Proofs.Ytclhomkgphdagaa.Pv
open Go Go.RowKit
inductive Cell where
  | box (t : TypeId) (ds : List D)
  | log (e : TypeId) (sz n : Nat)
  deriving Inhabited
abbrev H := List Cell
def Cx.blk (C : Cx) (id b : Nat) : Prop := C.bx id = some b ∨ ∃ u, C.lg id = some u ∧ u.ownBlock = some b
/-- How the world has moved. -/
structure Fw (C : Cx) (w : World) (C' : Cx) (w' : World) : Prop extends Ev C w C' w' where
  frame : ∀ b, b < w.heap.size → (∀ id, ¬ C.blk id b) → w'.heap[b]? = w.heap[b]?
  own : ∀ id b, C'.blk id b → b < w.heap.size → ∃ id', C.blk id' b
  new : ∀ b o, C'.S b o → b < w.heap.size → C.S b o ∨ ∃ id, C.blk id b
theorem Fw.refl (C : Cx) (w : World) : Fw C w C w :=
  ⟨⟨rfl, rfl, rfl, Nat.le_refl _, fun _ _ h => h, fun _ _ _ => rfl, fun _ _ h => h, fun _ u h => ⟨u, h, .inl rfl⟩⟩, fun _ _ _ => rfl, fun id _ h _ => ⟨id, h⟩, fun _ _ h _ => .inl h⟩
theorem Fw.trans {C C1 C2 : Cx} {w w1 w2 : World} (h : Fw C w C1 w1) (k : Fw C1 w1 C2 w2) : Fw C w C2 w2 := by
  refine ⟨⟨k.os.trans h.os, k.tape.trans h.tape, k.output.trans h.output, Nat.le_trans h.size k.size, fun b o hs => k.sub b o (h.sub b o hs), fun b o hs => (k.cell b o (h.sub b o hs)).trans (h.cell b o hs), fun id b hb => k.bx id b (h.bx id b hb), fun id u hu => ?_⟩, fun b hb hn => ?_, fun id b hk hb => ?_, fun b o hs hb => ?_⟩
  · obtain ⟨u1, h1, h2⟩ := h.lg id u hu
    obtain ⟨u2, h3, h4⟩ := k.lg id u1 h1
    refine ⟨u2, h3, ?_⟩
    rcases h2 with rfl | h2
    · exact h4
    · rcases h4 with rfl | h4
      · exact .inr h2
      · exact .inr (by omega)
  · have hn1 : ∀ id, ¬ C1.blk id b := fun id hk => by
      obtain ⟨id', h'⟩ := h.own id b hk hb
      exact hn id' h'
    exact (k.frame b (Nat.lt_of_lt_of_le hb h.size) hn1).trans (h.frame b hb hn)
  · obtain ⟨id1, h1⟩ := k.own id b hk (Nat.lt_of_lt_of_le hb h.size)
    exact h.own id1 b h1 hb
  · rcases k.new b o hs (Nat.lt_of_lt_of_le hb h.size) with h1 | ⟨id, h1⟩
    · exact h.new b o h1 hb
    · exact .inr (h.own id b h1 hb)
/-- The abstract store is what the world holds. -/
structure Sim (C : Cx) (h : H) (w : World) : Prop where
  S : ∀ b o, C.S b o → b < w.heap.size
  box : ∀ id t ds, h[id]? = some (.box t ds) → ∃ (b : Nat) (vs : Array Value), C.bx id = some b ∧ w.heap[b]? = some (.cells vs t (0, 0)) ∧ RdL C w ds vs.toList ∧ (∀ u ∈ vs.toList, u.oneCell' = true) ∧ ∀ o, ¬ C.S b o
  log : ∀ id e sz n, h[id]? = some (.log e sz n) → ∃ u xs, C.lg id = some u ∧ w.ownsRow 0 e sz u n xs ∧ (∀ b o, u.ownBlock = some b → C.S b o → o < n * sz)
  lt : ∀ id b, C.blk id b → b < w.heap.size
  idb : ∀ id b, C.bx id = some b → id < h.length
  idl : ∀ id u, C.lg id = some u → id < h.length
  inj : ∀ id id' b, C.blk id b → C.blk id' b → id = id'
  one : ∀ id b, C.bx id = some b → C.lg id = none
/-! ### Lists of readings -/
section lists
variable {C : Cx} {w : World}
theorem RdL.len : ∀ {ds : List D} {vs : List Value}, RdL C w ds vs → ds.length = vs.length
  | [], _, h => by cases h; rfl
  | d :: ds, _, ⟨v, rest, e, _, r⟩ => by subst e; simp [r.len]
theorem RdL.get : ∀ {ds : List D} {vs : List Value}, RdL C w ds vs → ∀ {i : Nat} {d : D}, ds[i]? = some d → ∃ v, vs[i]? = some v ∧ Rd C w d v
  | [], _, _, _, _, h => by simp at h
  | d :: ds, _, ⟨v, rest, e, r1, r2⟩, 0, d', h => by
    subst e
    simp at h
    subst h
    exact ⟨v, rfl, r1⟩
  | d :: ds, _, ⟨v, rest, e, r1, r2⟩, i + 1, d', h => by
    subst e
    simp at h ⊢
    exact r2.get h
theorem RdL.take : ∀ {ds : List D} {vs : List Value}, RdL C w ds vs → ∀ n, RdL C w (ds.take n) (vs.take n)
  | [], _, h, n => by cases h; simp [RdL]
  | d :: ds, _, ⟨v, rest, e, r1, r2⟩, 0 => by subst e; simp [RdL]
  | d :: ds, _, ⟨v, rest, e, r1, r2⟩, n + 1 => by subst e; exact ⟨v, _, rfl, r1, r2.take n⟩
theorem RdL.drop : ∀ {ds : List D} {vs : List Value}, RdL C w ds vs → ∀ n, RdL C w (ds.drop n) (vs.drop n)
  | [], _, h, n => by cases h; simp [RdL]
  | d :: ds, _, ⟨v, rest, e, r1, r2⟩, 0 => by subst e; exact ⟨v, rest, rfl, r1, r2⟩
  | d :: ds, _, ⟨v, rest, e, r1, r2⟩, n + 1 => by subst e; exact r2.drop n
theorem RdL.app : ∀ {ds es : List D} {vs us : List Value}, RdL C w ds vs → RdL C w es us → RdL C w (ds ++ es) (vs ++ us)
  | [], _, _, _, h, k => by cases h; exact k
  | d :: ds, _, _, _, ⟨v, rest, e, r1, r2⟩, k => by subst e; exact ⟨v, _, rfl, r1, r2.app k⟩
theorem RdL.raws (C : Cx) (w : World) : ∀ vs : List Value, RdL C w (vs.map D.raw) vs
  | [] => rfl
  | v :: vs => ⟨v, vs, rfl, rfl, RdL.raws C w vs⟩
theorem RdL.set {d : D} {v : Value} (h : Rd C w d v) : ∀ {ds : List D} {vs : List Value}, RdL C w ds vs → ∀ i, RdL C w (ds.set i d) (vs.set i v)
  | [], _, k, i => by cases k; simp [RdL]
  | _ :: ds, _, ⟨u, rest, e, r1, r2⟩, 0 => by subst e; exact ⟨v, rest, rfl, h, r2⟩
  | _ :: ds, _, ⟨u, rest, e, r1, r2⟩, i + 1 => by subst e; exact ⟨u, _, rfl, r1, RdL.set h r2 i⟩
end lists
def splice {α : Type} (l : List α) (off : Nat) (es : List α) : List α := l.take off ++ es ++ l.drop (off + es.length)
theorem RdL.splice {C : Cx} {w : World} {ds es : List D} {vs us : List Value} (h : RdL C w ds vs) (k : RdL C w es us) (off : Nat) : RdL C w (Pv.splice ds off es) (Pv.splice vs off us) := by
  unfold Pv.splice
  rw [k.len]
  exact ((h.take off).app k).app (h.drop _)
/-! ### Leaves -/
def cellsD : D → Option (List D)
  | .any => none
  | .raw v => some (v.cells.toList.map D.raw)
  | .agg ds => some ds
  | d => some [d]
def leafD : D → Bool
  | .any | .agg _ | .tup _ => false
  | .raw v => v.oneCell'
  | _ => true
theorem Rd.cells {C : Cx} {w : World} {d : D} {v : Value} {ds : List D} (h : Rd C w d v) (e : cellsD d = some ds) : RdL C w ds v.cells.toList := by
  cases d with
  | any => cases e
  | raw u =>
    simp only [Rd] at h
    subst h
    simp only [cellsD, Option.some.injEq] at e
    subst e
    exact RdL.raws C w _
  | agg es =>
    simp only [cellsD, Option.some.injEq] at e
    subst e
    simp only [Rd] at h
    obtain ⟨vs, rfl, r⟩ := h
    simpa [Value.cells] using r
  | tup es =>
    simp only [cellsD, Option.some.injEq] at e
    subst e
    have h' := h
    simp only [Rd] at h
    obtain ⟨vs, rfl, r⟩ := h
    exact ⟨_, [], rfl, h', rfl⟩
  | sl tag sz es =>
    simp only [cellsD, Option.some.injEq] at e
    subst e
    have h' := h
    simp only [Rd] at h
    obtain ⟨⟨a, cap, rfl, _⟩, _⟩ := h
    exact ⟨_, [], rfl, h', rfl⟩
  | bx id off =>
    simp only [cellsD, Option.some.injEq] at e
    subst e
    have h' := h
    simp only [Rd] at h
    obtain ⟨b, _, rfl⟩ := h
    exact ⟨_, [], rfl, h', rfl⟩
  | ms id off n =>
    simp only [cellsD, Option.some.injEq] at e
    subst e
    have h' := h
    simp only [Rd] at h
    obtain ⟨b, cap, _, rfl, _⟩ := h
    exact ⟨_, [], rfl, h', rfl⟩
  | sln n =>
    simp only [cellsD, Option.some.injEq] at e
    subst e
    have h' := h
    simp only [Rd] at h
    obtain ⟨a, cap, rfl⟩ := h
    exact ⟨_, [], rfl, h', rfl⟩
  | pe d off =>
    simp only [cellsD, Option.some.injEq] at e
    subst e
    have h' := h
    simp only [Rd] at h
    obtain ⟨b, o, u, rfl, _⟩ := h
    exact ⟨_, [], rfl, h', rfl⟩
  | fn f x y =>
    simp only [cellsD, Option.some.injEq] at e
    subst e
    have h' := h
    simp only [Rd] at h
    obtain ⟨vs, us, rfl, _⟩ := h
    exact ⟨_, [], rfl, h', rfl⟩
  | ifc t d =>
    simp only [cellsD, Option.some.injEq] at e
    subst e
    have h' := h
    simp only [Rd] at h
    obtain ⟨u, rfl, _⟩ := h
    exact ⟨_, [], rfl, h', rfl⟩
theorem Rd.leaf {C : Cx} {w : World} {d : D} {v : Value} (h : Rd C w d v) (e : leafD d = true) : v.oneCell' = true := by
  cases d <;> simp only [Rd] at h <;> simp only [leafD] at e <;> first | cases e | skip
  case raw => subst h; exact e
  case sl => obtain ⟨⟨a, cap, rfl, _⟩, _⟩ := h; rfl
  case bx => obtain ⟨b, _, rfl⟩ := h; rfl
  case ms => obtain ⟨b, cap, _, rfl, _⟩ := h; rfl
  case sln => obtain ⟨a, cap, rfl⟩ := h; rfl
  case pe => obtain ⟨b, o, u, rfl, _⟩ := h; rfl
  case fn => obtain ⟨vs, us, rfl, _⟩ := h; rfl
  case ifc => obtain ⟨u, rfl, _⟩ := h; rfl
theorem RdL.leaves {C : Cx} {w : World} : ∀ {ds : List D} {vs : List Value}, RdL C w ds vs → ds.all leafD = true → ∀ u ∈ vs, u.oneCell' = true
  | [], _, h, _, u, hu => by cases h; cases hu
  | d :: ds, _, ⟨v, rest, e, r1, r2⟩, hl, u, hu => by
    subst e
    simp only [List.all_cons, Bool.and_eq_true] at hl
    rcases List.mem_cons.1 hu with rfl | hu
    · exact r1.leaf hl.1
    · exact r2.leaves hl.2 u hu
/-! ### The store of boxes grows, and turns -/
section grow
variable {C : Cx} {h : H} {w : World}
theorem Sim.old (s : Sim C h w) {id : Nat} {t : TypeId} {ds : List D} (e : h[id]? = some (.box t ds)) : id < h.length := (List.getElem?_eq_some_iff.1 e).1
theorem Sim.fresh (s : Sim C h w) : C.bx h.length = none ∧ C.lg h.length = none := by
  refine ⟨?_, ?_⟩
  · cases e : C.bx h.length with
    | none => rfl
    | some b => exact absurd (s.idb _ _ e) (Nat.lt_irrefl _)
  · cases e : C.lg h.length with
    | none => rfl
    | some b => exact absurd (s.idl _ _ e) (Nat.lt_irrefl _)
def setf {α : Type} (f : Nat → Option α) (i : Nat) (x : α) : Nat → Option α := fun k => if k = i then some x else f k
theorem setf_same {α : Type} (f : Nat → Option α) (i : Nat) (x : α) : setf f i x i = some x := if_pos rfl
theorem setf_other {α : Type} (f : Nat → Option α) {i k : Nat} (x : α) (h : k ≠ i) : setf f i x k = f k := if_neg h
/-- A new block: it may be a box (B), a log (L), stable cells (T), or nothing. -/
def Cx.grow (C : Cx) (w : World) (T : Nat → Prop) : Cx := { C with S := fun b o => C.S b o ∨ (b = w.heap.size ∧ T o) }
theorem Cx.grow_blk (C : Cx) (w : World) (T : Nat → Prop) (id b : Nat) : (C.grow w T).blk id b ↔ C.blk id b := Iff.rfl
/-- The world has a new block, that the reading may take as stable. -/
theorem Fw.alloc (s : Sim C h w) (o : Obj) (T : Nat → Prop) : Fw C w (C.grow w T) (w.alloc o) := by
  have hcell : ∀ b o', C.S b o' → (w.alloc o).cell? ⟨b, o', none⟩ = w.cell? ⟨b, o', none⟩ := fun b o' hs => World.cell?_of_block (a := ⟨b, o', none⟩) (Below.heap_alloc w o b (s.S b o' hs))
  exact ⟨⟨rfl, rfl, rfl, by simp, fun _ _ h => .inl h, hcell, fun _ _ h => h, fun _ u h => ⟨u, h, .inl rfl⟩⟩, fun b hb _ => Below.heap_alloc w o b hb, fun id _ h _ => ⟨id, h⟩, fun b o hs hb => by
    rcases hs with hs | ⟨rfl, _⟩
    · exact .inl hs
    · omega⟩
theorem Sim.alloc (s : Sim C h w) (o : Obj) (T : Nat → Prop) : Sim (C.grow w T) h (w.alloc o) := by
  have f := Fw.alloc s o T
  refine ⟨fun b o' hs => ?_, fun id t ds e => ?_, fun id e sz n e' => ?_, fun id b hb => ?_, s.idb, s.idl, s.inj, s.one⟩
  · rcases hs with hs | ⟨rfl, _⟩
    · have := s.S b o' hs; simp; omega
    · simp
  · obtain ⟨b, vs, h1, h2, h3, h4, h5⟩ := s.box id t ds e
    have hb : b < w.heap.size := (Array.getElem?_eq_some_iff.1 h2).1
    refine ⟨b, vs, h1, (Below.heap_alloc w o b hb).trans h2, h3.mono f.toEv, h4, fun o' hs => ?_⟩
    rcases hs with hs | ⟨rfl, _⟩
    · exact h5 o' hs
    · omega
  · obtain ⟨u, xs, h1, h2, h3⟩ := s.log id e sz n e'
    refine ⟨u, xs, h1, h2.alloc o, fun b o' hb hs => ?_⟩
    rcases hs with hs | ⟨rfl, _⟩
    · exact h3 b o' hb hs
    · have := (h2.lt _ hb).2
      omega
  · have := s.lt id b hb
    simp
    omega
theorem Sim.drew (s : Sim C h w) : Sim C h w.drew ∧ Fw C w C w.drew := by
  have f : Fw C w C w.drew := ⟨⟨rfl, rfl, rfl, Nat.le_refl _, fun _ _ h => h, fun _ _ _ => rfl, fun _ _ h => h, fun _ u h => ⟨u, h, .inl rfl⟩⟩, fun _ _ _ => rfl, fun id _ h _ => ⟨id, h⟩, fun _ _ h _ => .inl h⟩
  refine ⟨⟨s.S, fun id t ds e => ?_, fun id e sz n e' => ?_, s.lt, s.idb, s.idl, s.inj, s.one⟩, f⟩
  · obtain ⟨b, vs, h1, h2, h3, h4, h5⟩ := s.box id t ds e
    exact ⟨b, vs, h1, h2, h3.mono f.toEv, h4, h5⟩
  · obtain ⟨u, xs, h1, h2, h3⟩ := s.log id e sz n e'
    exact ⟨u, xs, h1, h2, h3⟩
/-- A new box. -/
theorem Sim.box_new (s : Sim C h w) (t : TypeId) {ds : List D} {vs : Array Value} (r : RdL C w ds vs.toList) (h1 : ∀ u ∈ vs.toList, u.oneCell' = true) :
    ∃ C', Fw C w C' (w.alloc (.cells vs t)) ∧ Sim C' (h ++ [.box t ds]) (w.alloc (.cells vs t)) ∧ C'.bx h.length = some w.heap.size := by
  have s1 := s.alloc (.cells vs t) (fun _ => False)
  have f1 := Fw.alloc s (.cells vs t) (fun _ => False)
  obtain ⟨fb, fl⟩ := s.fresh
  let C1 := C.grow w (fun _ => False)
  let C' : Cx := { C1 with bx := setf C.bx h.length w.heap.size }
  have hblk : ∀ id b, C'.blk id b → C.blk id b ∨ (id = h.length ∧ b = w.heap.size) := fun id b hb => by
    rcases hb with hb | hb
    · by_cases e : id = h.length
      · subst e
        have : some w.heap.size = some b := (setf_same _ _ _).symm.trans hb
        exact .inr ⟨rfl, (Option.some.inj this).symm⟩
      · exact .inl (.inl ((setf_other _ _ e).symm.trans hb))
    · exact .inl (.inr hb)
  have e1 : Ev C1 (w.alloc (.cells vs t)) C' (w.alloc (.cells vs t)) := ⟨rfl, rfl, rfl, Nat.le_refl _, fun _ _ h => h, fun _ _ _ => rfl, fun id b hb => by
    have : id ≠ h.length := fun e => by subst e; rw [show C1.bx h.length = none from fb] at hb; cases hb
    exact (setf_other _ _ this).trans hb, fun _ u h => ⟨u, h, .inl rfl⟩⟩
  have f : Fw C w C' (w.alloc (.cells vs t)) := by
    have e0 := f1.toEv
    refine ⟨⟨rfl, rfl, rfl, e0.size, e0.sub, e0.cell, fun id b hb => e1.bx id b hb, fun id u hu => ⟨u, hu, .inl rfl⟩⟩, f1.frame, fun id b hb hlt => ?_, f1.new⟩
    rcases hblk id b hb with h' | ⟨_, rfl⟩
    · exact ⟨id, h'⟩
    · omega
  refine ⟨C', f, ⟨s1.S, fun id t' ds' e => ?_, fun id e sz n e' => ?_, fun id b hb => ?_, fun id b hb => ?_, fun id u hu => ?_, fun id id' b hb hb' => ?_, fun id b hb => ?_⟩, setf_same _ _ _⟩
  · by_cases hid : id < h.length
    · rw [List.getElem?_append_left hid] at e
      obtain ⟨b, vs', h2, h3, h4, h5, h6⟩ := s1.box id t' ds' e
      exact ⟨b, vs', e1.bx id b h2, h3, h4.mono e1, h5, h6⟩
    · have hid' : id = h.length := by
        have := (List.getElem?_eq_some_iff.1 e).1
        simp at this
        omega
      subst hid'
      simp at e
      obtain ⟨rfl, rfl⟩ := e
      refine ⟨w.heap.size, vs, setf_same _ _ _, heap_alloc_new w _, r.mono f.toEv, h1, fun o hs => ?_⟩
      rcases hs with hs | ⟨_, hf⟩
      · exact Nat.lt_irrefl _ (s.S _ _ hs)
      · exact hf
  · have hid : id < h.length := by
      have := (List.getElem?_eq_some_iff.1 e').1
      by_cases hid : id < h.length
      · exact hid
      · simp at this
        have hid' : id = h.length := by omega
        subst hid'
        simp at e'
    rw [List.getElem?_append_left hid] at e'
    exact s1.log id e sz n e'
  · rcases hblk id b hb with h' | ⟨_, rfl⟩
    · exact s1.lt id b h'
    · simp
  · by_cases e : id = h.length
    · simp [e]
    · have := s.idb id b ((setf_other _ _ e).symm.trans hb)
      simp; omega
  · have := s.idl id u hu
    simp; omega
  · rcases hblk id b hb with h2 | ⟨rfl, rfl⟩ <;> rcases hblk id' _ hb' with h3 | ⟨rfl, e⟩
    · exact s.inj id id' b h2 h3
    · subst e; exact absurd (s.lt id _ h2) (Nat.lt_irrefl _)
    · exact absurd (s.lt id' _ h3) (Nat.lt_irrefl _)
    · rfl
  · by_cases e : id = h.length
    · subst e; exact fl
    · exact s.one id b ((setf_other _ _ e).symm.trans hb)
end grow
end Go.Proofs.Ytclhomkgphdagaa.Pv

/- The evaluator over data (see NOTES, 'Pv'): part Pv11. -/
import Derived.Test.YtclhomkgphdagaaPv9
import Derived.Test.YtclhomkgphdagaaPv10
namespace Go.Proofs.Ytclhomkgphdagaa.Pv
open Go Go.RowKit
/-! ### The reading is told more of a world that stands -/
section
variable {C : Cx} {h : H} {w : World}
def CF (C : Cx) (F : Nat → Prop) : Cx := { C with S := fun b o => C.S b o ∨ F b }
theorem CF.ev {C : Cx} {w : World} {F G : Nat → Prop} (hFG : ∀ b, F b → G b) : Ev (CF C F) w (CF C G) w :=
  ⟨rfl, rfl, rfl, Nat.le_refl _, fun b o h => h.imp id (hFG b), fun _ _ _ => rfl, fun _ _ h => h, fun _ u h => ⟨u, h, .inl rfl⟩⟩
theorem CF.ev0 {C : Cx} {w : World} {F : Nat → Prop} : Ev C w (CF C F) w :=
  ⟨rfl, rfl, rfl, Nat.le_refl _, fun b o h => .inl h, fun _ _ _ => rfl, fun _ _ h => h, fun _ u h => ⟨u, h, .inl rfl⟩⟩
theorem Sim.ext_S (s : Sim C h w) {F : Nat → Prop} (hF : ∀ b, F b → b < w.heap.size ∧ ∀ id, ¬ C.blk id b) : Sim (CF C F) h w := by
  refine ⟨fun b o hs => hs.elim (s.S b o) fun hf => (hF b hf).1, fun id t ds e => ?_, fun id e sz n e' => ?_, s.lt, s.idb, s.idl, s.inj, s.one⟩
  · obtain ⟨b, vs, h1, h2, h3, h4, h5⟩ := s.box id t ds e
    exact ⟨b, vs, h1, h2, h3.mono CF.ev0, h4, fun o hs => hs.elim (h5 o) fun hf => (hF b hf).2 id (.inl h1)⟩
  · obtain ⟨u, xs, h1, h2, h3⟩ := s.log id e sz n e'
    exact ⟨u, xs, h1, h2, fun b o hb hs => hs.elim (h3 b o hb) fun hf => absurd (.inr ⟨u, h1, hb⟩) ((hF b hf).2 id)⟩
theorem ids_old {h : H} {x : Cell} {id : Nat} {y : Cell} (e : (h ++ [x])[id]? = some y) : (id < h.length ∧ h[id]? = some y) ∨ (id = h.length ∧ x = y) := by
  by_cases hid : id < h.length
  · rw [List.getElem?_append_left hid] at e
    exact .inl ⟨hid, e⟩
  · have hid' : id = h.length := by
      have := (List.getElem?_eq_some_iff.1 e).1
      simp at this
      omega
    subst hid'
    simp at e
    exact .inr ⟨rfl, e⟩
/-- A row that nobody reads or owns becomes a log. -/
theorem Sim.ext_log (s : Sim C h w) {e sz n : Nat} {u : Value} {xs : List Value} (ho : w.ownsRow 0 e sz u n xs) (hu : ∀ b, u.ownBlock = some b → (∀ o, ¬ C.S b o) ∧ ∀ id, ¬ C.blk id b) :
    ∃ C', Ev C w C' w ∧ Sim C' (h ++ [.log e sz n]) w ∧ C'.lg h.length = some u ∧ (∀ b o, u.ownBlock = some b → o < n * sz → C'.S b o) ∧ (∀ b o, C'.S b o → C.S b o ∨ u.ownBlock = some b) ∧ ∀ id b, C'.blk id b → C.blk id b ∨ u.ownBlock = some b := by
  obtain ⟨fb, fl⟩ := s.fresh
  let C' : Cx := { S := fun b o => C.S b o ∨ (u.ownBlock = some b ∧ o < n * sz), bx := C.bx, lg := setf C.lg h.length u }
  have hblk : ∀ id b, C'.blk id b → C.blk id b ∨ (id = h.length ∧ u.ownBlock = some b) := fun id b hb => by
    rcases hb with hb | ⟨u', hu', hb⟩
    · exact .inl (.inl hb)
    · by_cases e : id = h.length
      · subst e
        have : some u = some u' := (setf_same _ _ _).symm.trans hu'
        cases this
        exact .inr ⟨rfl, hb⟩
      · exact .inl (.inr ⟨u', (setf_other _ _ e).symm.trans hu', hb⟩)
  have hlg : ∀ id x, C.lg id = some x → C'.lg id = some x := fun id x hx => by
    have : id ≠ h.length := fun e => by subst e; rw [fl] at hx; cases hx
    exact (setf_other _ _ this).trans hx
  have f : Ev C w C' w := ⟨rfl, rfl, rfl, Nat.le_refl _, fun _ _ h => .inl h, fun _ _ _ => rfl, fun _ _ h => h, fun id x hx => ⟨x, hlg id x hx, .inl rfl⟩⟩
  refine ⟨C', f, ⟨fun b o hs => ?_, fun id t ds e' => ?_, fun id e2 sz2 n2 e' => ?_, fun id b hb => ?_, fun id b hb => ?_, fun id x hx => ?_, fun id id' b hb hb' => ?_, fun id b hb => ?_⟩, setf_same _ _ _, fun b o hb ho => .inr ⟨hb, ho⟩, fun b o hs => hs.imp id (·.1), fun id b hb => (hblk id b hb).imp (fun h => h) (·.2)⟩
  · rcases hs with hs | ⟨hb, _⟩
    · exact s.S b o hs
    · exact (ho.lt b hb).2
  · rcases ids_old e' with ⟨_, e'⟩ | ⟨_, e'⟩
    · obtain ⟨b, vs, h1, h2, h3, h4, h5⟩ := s.box id t ds e'
      refine ⟨b, vs, h1, h2, h3.mono f, h4, fun o hs => ?_⟩
      rcases hs with hs | ⟨hb, _⟩
      · exact h5 o hs
      · exact (hu b hb).2 id (.inl h1)
    · cases e'
  · rcases ids_old e' with ⟨_, e3⟩ | ⟨rfl, e3⟩
    · obtain ⟨x, ys, h1, h2, h3⟩ := s.log id e2 sz2 n2 e3
      refine ⟨x, ys, hlg id x h1, h2, fun b o hb hs => ?_⟩
      rcases hs with hs | ⟨hb', _⟩
      · exact h3 b o hb hs
      · exact absurd (.inr ⟨x, h1, hb⟩) ((hu b hb').2 id)
    · cases e3
      refine ⟨u, xs, setf_same _ _ _, ho, fun b o hb hs => ?_⟩
      rcases hs with hs | ⟨_, hs⟩
      · exact absurd hs ((hu b hb).1 o)
      · exact hs
  · rcases hblk id b hb with h' | ⟨_, h'⟩
    · exact s.lt id b h'
    · exact (ho.lt b h').2
  · have := s.idb id b hb
    simp; omega
  · by_cases e : id = h.length
    · simp [e]
    · have := s.idl id x ((setf_other _ _ e).symm.trans hx)
      simp; omega
  · rcases hblk id b hb with h2 | ⟨rfl, h2⟩ <;> rcases hblk id' b hb' with h3 | ⟨rfl, h3⟩
    · exact s.inj id id' b h2 h3
    · exact absurd h2 ((hu b h3).2 id)
    · exact absurd h3 ((hu b h2).2 id')
    · rfl
  · have : id ≠ h.length := fun e => by
      have := s.idb id b hb
      omega
    exact (setf_other _ _ this).trans (s.one id b hb)
/-- A block that nobody reads or owns becomes a box. -/
theorem Sim.ext_box (s : Sim C h w) {t : TypeId} {ds : List D} {b0 : Nat} {vs : Array Value} (hg : w.heap[b0]? = some (.cells vs t (0, 0))) (r : RdL C w ds vs.toList) (h1 : ∀ u ∈ vs.toList, u.oneCell' = true) (hS : ∀ o, ¬ C.S b0 o) (hb0 : ∀ id, ¬ C.blk id b0) :
    ∃ C', Ev C w C' w ∧ Sim C' (h ++ [.box t ds]) w ∧ C'.bx h.length = some b0 ∧ (∀ b o, C'.S b o → C.S b o) ∧ ∀ id b, C'.blk id b → C.blk id b ∨ b = b0 := by
  obtain ⟨fb, fl⟩ := s.fresh
  let C' : Cx := { C with bx := setf C.bx h.length b0 }
  have hblk : ∀ id b, C'.blk id b → C.blk id b ∨ (id = h.length ∧ b = b0) := fun id b hb => by
    rcases hb with hb | hb
    · by_cases e : id = h.length
      · subst e
        have : some b0 = some b := (setf_same _ _ _).symm.trans hb
        exact .inr ⟨rfl, (Option.some.inj this).symm⟩
      · exact .inl (.inl ((setf_other _ _ e).symm.trans hb))
    · exact .inl (.inr hb)
  have f : Ev C w C' w := ⟨rfl, rfl, rfl, Nat.le_refl _, fun _ _ h => h, fun _ _ _ => rfl, fun id b hb => by
    have : id ≠ h.length := fun e => by subst e; rw [fb] at hb; cases hb
    exact (setf_other _ _ this).trans hb, fun _ u h => ⟨u, h, .inl rfl⟩⟩
  refine ⟨C', f, ⟨s.S, fun id t' ds' e => ?_, fun id e sz n e' => ?_, fun id b hb => ?_, fun id b hb => ?_, fun id u hu => ?_, fun id id' b hb hb' => ?_, fun id b hb => ?_⟩, setf_same _ _ _, fun _ _ h => h, fun id b hb => (hblk id b hb).imp (fun h => h) (·.2)⟩
  · rcases ids_old e with ⟨_, e3⟩ | ⟨rfl, e3⟩
    · obtain ⟨b, vs', h2, h3, h4, h5, h6⟩ := s.box id t' ds' e3
      exact ⟨b, vs', f.bx id b h2, h3, h4.mono f, h5, h6⟩
    · cases e3
      exact ⟨b0, vs, setf_same _ _ _, hg, r.mono f, h1, hS⟩
  · rcases ids_old e' with ⟨_, e'⟩ | ⟨_, e'⟩
    · exact s.log id e sz n e'
    · cases e'
  · rcases hblk id b hb with h' | ⟨_, rfl⟩
    · exact s.lt id b h'
    · exact (Array.getElem?_eq_some_iff.1 hg).1
  · by_cases e : id = h.length
    · simp [e]
    · have := s.idb id b ((setf_other _ _ e).symm.trans hb)
      simp; omega
  · have := s.idl id u hu
    simp; omega
  · rcases hblk id b hb with h2 | ⟨rfl, rfl⟩ <;> rcases hblk id' _ hb' with h3 | ⟨rfl, e⟩
    · exact s.inj id id' b h2 h3
    · subst e; exact absurd h2 (hb0 id)
    · exact absurd h3 (hb0 id')
    · rfl
  · by_cases e : id = h.length
    · subst e; exact fl
    · exact s.one id b ((setf_other _ _ e).symm.trans hb)
theorem Sim.below (s : Sim C h w) {w' : World} (hb : Below w.heap.size w w') : Sim C h w' ∧ Fw C w C w' := by
  have f : Fw C w C w' := ⟨⟨hb.os, hb.tape, hb.output, hb.size, fun _ _ h => h, fun b o hs => hb.cell (p := ⟨b, o, none⟩) (s.S b o hs), fun _ _ h => h, fun _ u h => ⟨u, h, .inl rfl⟩⟩, fun b hlt _ => hb.block b hlt, fun id _ h _ => ⟨id, h⟩, fun _ _ h _ => .inl h⟩
  refine ⟨⟨fun b o hs => Nat.lt_of_lt_of_le (s.S b o hs) hb.size, fun id t ds e => ?_, fun id e sz n e' => ?_, fun id b hb' => Nat.lt_of_lt_of_le (s.lt id b hb') hb.size, s.idb, s.idl, s.inj, s.one⟩, f⟩
  · obtain ⟨b, vs, h1, h2, h3, h4, h5⟩ := s.box id t ds e
    exact ⟨b, vs, h1, (hb.block b (s.lt id b (.inl h1))).trans h2, h3.mono f.toEv, h4, h5⟩
  · obtain ⟨u, xs, h1, h2, h3⟩ := s.log id e sz n e'
    refine ⟨u, xs, h1, ?_, h3⟩
    refine h2.kept (row := none) ⟨hb.os, hb.tape, hb.output, hb.size, fun k hk _ => hb.block k hk⟩ ?_
    cases u.ownBlock <;> simp
end
/-! ### What an operation of a head yields -/
inductive HD where
  | d (d : D)
  | fs (e sz : Nat) (ds : List D)
  | fb (t : TypeId) (ds : List D)
  deriving Inhabited
def HD.rawB : HD → Bool
  | .d (.raw _) => true
  | _ => false
def hdD : HD → D
  | .d d => d
  | .fs _ sz ds => .sl none sz ds
  | .fb _ _ => .any
/-- Z: the frozen blocks; F: its own. -/
def HRd (C : Cx) (w : World) (Z F : Nat → Prop) : HD → Value → Prop
  | .d d, v => Rd (CF C Z) w d v
  | .fs e sz ds, v => ∃ xs : List Value, (∀ b, v.ownBlock = some b → F b) ∧ w.ownsRow 0 e sz v ds.length xs ∧ RdE (CF C Z) w sz ds (fun j => xs[j]?)
  | .fb t ds, v => ∃ (b : Nat) (vs : Array Value), F b ∧ v = .pointer (some ⟨b, 0, none⟩) ∧ w.heap[b]? = some (.cells vs t (0, 0)) ∧ RdL (CF C Z) w ds vs.toList ∧ ∀ u ∈ vs.toList, u.oneCell' = true
def HD.isD : HD → Bool
  | .d _ => true
  | _ => false
section
variable {C : Cx} {h : H} {w : World}
theorem own_RdE {G : Nat → Prop} {e sz : Nat} {v : Value} {ds : List D} {xs : List Value} {C2 : Cx} (ho : w.ownsRow 0 e sz v ds.length xs) (hr : RdE (CF C G) w sz ds (fun j => xs[j]?)) (f : Ev (CF C G) w C2 w) (hS : ∀ b o, v.ownBlock = some b → o < ds.length * sz → C2.S b o) (htag : Option Nat)
    (ht : ∀ id, htag = some id → ∃ u, C2.lg id = some u ∧ ds.length ≤ lenV u ∧ (ds.length = lenV u → v = u)) : Rd C2 w (.sl htag sz ds) v := by
  obtain ⟨a, cap, rfl, h1, h2⟩ := ownsRow_form ho
  refine ⟨⟨a, cap, rfl, h1, h2⟩, fun h0 => ?_, ht⟩
  rcases ho.2 with ⟨h3, h4⟩ | ⟨g, cap', cur, h3, _, hg, _⟩
  · omega
  · simp at h3
    obtain ⟨rfl, rfl⟩ := h3
    refine ⟨g, 0, cap, rfl, fun i hi => by rw [Nat.zero_add]; exact hS g i rfl hi, ?_⟩
    refine RdE.mono f sz ds _ _ hr fun j hj => ?_
    have hlt : j < xs.length := by rw [ho.1]; exact hj
    have := ho.cells (g := g) rfl j _ (List.getElem?_eq_getElem hlt)
    rw [Addr.add_mid, Nat.zero_add] at this
    rw [Nat.zero_add, this, List.getElem?_eq_getElem hlt]
theorem hdD_rd {Z F : Nat → Prop} {hd : HD} {v : Value} (hr : HRd C w Z F hd v) : Rd (CF C (fun b => Z b ∨ F b)) w (hdD hd) v := by
  cases hd with
  | d d => exact Rd.mono (CF.ev fun _ h => .inl h) d v hr
  | fs e sz ds =>
    obtain ⟨xs, h2, h3, h4⟩ := hr
    exact own_RdE h3 h4 (CF.ev fun _ h => .inl h) (fun b o hb _ => .inr (.inr (h2 b hb))) none fun id e => by cases e
  | fb t ds => trivial
/-- It stands while all that it reads stands. -/
theorem HRd.keep {B : Nat} {Z Z' F : Nat → Prop} {w' : World} {hd : HD} {v : Value} (hr : HRd C w Z F hd v) (hC : ∀ b o, C.S b o → b < B) (hBw : B ≤ w.heap.size) (hZ : ∀ b, Z b → b < w.heap.size) (hF : hd.isD = true ∨ ∀ b, F b → b < w.heap.size) (hZZ : ∀ b, Z b → Z' b) (hk : Keeps B (fun b => Z b ∨ (hd.isD = false ∧ F b)) w w') : HRd C w' Z' F hd v := by
  have ev : Ev (CF C Z) w (CF C Z') w' := ⟨hk.os, hk.tape, hk.output, hk.size, fun b o h => h.imp id (hZZ b), fun b o hs => World.cell?_of_block (a := ⟨b, o, none⟩) (hs.elim (fun h => hk.block b (Nat.lt_of_lt_of_le (hC b o h) hBw) (.inl (hC b o h))) fun h => hk.block b (hZ b h) (.inr (.inl h))), fun _ _ h => h, fun _ u h => ⟨u, h, .inl rfl⟩⟩
  cases hd with
  | d d => exact Rd.mono ev d v hr
  | fs e sz ds =>
    obtain ⟨xs, h2, h3, h4⟩ := hr
    have hF' : ∀ b, F b → b < w.heap.size := hF.resolve_left (by simp [HD.isD])
    refine ⟨xs, h2, ⟨h3.1, ?_⟩, RdE.mono ev sz ds _ _ h4 fun _ _ => rfl⟩
    rcases h3.2 with hn | ⟨g, cap, cur, rfl, hb, hgg, rest⟩
    · exact .inl hn
    · exact .inr ⟨g, cap, cur, rfl, hb, (hk.block g (hF' g (h2 g rfl)) (.inr (.inr ⟨rfl, h2 g rfl⟩))).trans hgg, rest⟩
  | fb t ds =>
    obtain ⟨b, vs, h2, h4, h5, h6, h7⟩ := hr
    have hF' : ∀ b, F b → b < w.heap.size := hF.resolve_left (by simp [HD.isD])
    exact ⟨b, vs, h2, h4, (hk.block b (hF' b h2) (.inr (.inr ⟨rfl, h2⟩))).trans h5, RdL.mono ev ds _ h6, h7⟩
end
end Go.Proofs.Ytclhomkgphdagaa.Pv

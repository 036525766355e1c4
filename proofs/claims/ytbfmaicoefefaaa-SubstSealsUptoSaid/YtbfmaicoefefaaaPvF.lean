/- Boxes that nobody turns any more: their cells stand, and may be read as data: a captured variable, a row that was filled. -/
import Derived.Test.YtbfmaicoefefaaaPvW
set_option linter.unusedSimpArgs false
set_option linter.unusedVariables false
namespace Go.Proofs.Ytbfmaicoefefaaa.Pv
open Go Go.RowKit
section
variable {C : Cx} {h : H} {w : World}
def Cx.still (C : Cx) (b : Nat) : Cx := { C with S := fun b' o => C.S b' o ∨ b' = b }
theorem Fw.still {id b : Nat} (hb : C.bx id = some b) : Fw C w (C.still b) w :=
  ⟨⟨rfl, rfl, rfl, Nat.le_refl _, fun _ _ h => .inl h, fun _ _ _ => rfl, fun _ _ h => h, fun _ u h => ⟨u, h, .inl rfl⟩⟩, fun _ _ _ => rfl, fun id' _ h _ => ⟨id', h⟩, fun b' o hs _ => hs.elim .inl fun e => .inr ⟨id, .inl (e ▸ hb)⟩⟩
theorem Sim.still (s : Sim C h w) {id : Nat} {t : TypeId} {ds : List D} (e : h[id]? = some (.box t ds)) {b : Nat} (hb : C.bx id = some b) : Sim (C.still b) (h.set id .dead) w := by
  have f : Fw C w (C.still b) w := Fw.still hb
  have hid := (List.getElem?_eq_some_iff.1 e).1
  refine ⟨s.S.mono f.toEv fun b' o hs => hs.elim (s.S b' o) fun e => e ▸ s.lt id b (.inl hb), fun id' t' ds' e' => ?_, fun id' e1 sz n e' => ?_, s.lt, fun id' b' hb' => by rw [List.length_set]; exact s.idb id' b' hb', fun id' u hu => by rw [List.length_set]; exact s.idl id' u hu, s.inj, s.one, fun id' b' P e' => ?_⟩
  · have hne : id' ≠ id := fun hi => by
      subst hi
      rw [List.getElem?_set_self hid] at e'
      simp at e'
    rw [List.getElem?_set_ne (fun e => hne e.symm)] at e'
    obtain ⟨b', vs, h1, h2, h3, h4, h5⟩ := s.box id' t' ds' e'
    exact ⟨b', vs, h1, h2, h3.mono f.toEv, h4, fun o hs => hs.elim (h5 o) fun e => hne (s.inj id' id b (.inl (h1.trans (congrArg some e))) (.inl hb))⟩
  · have hne : id' ≠ id := fun hi => by
      subst hi
      rw [List.getElem?_set_self hid] at e'
      simp at e'
    rw [List.getElem?_set_ne (fun e => hne e.symm)] at e'
    obtain ⟨u, xs, h1, h2, h3⟩ := s.log id' e1 sz n e'
    exact ⟨u, xs, h1, h2, fun b' o hu hs => hs.elim (h3 b' o hu) fun e => absurd (s.inj id' id b (.inr ⟨u, h1, hu.trans (congrArg some e)⟩) (.inl hb)) hne⟩
  · obtain ⟨hne, e'⟩ := set_old e' (fun h => by cases h)
    obtain ⟨h1, h2, h3⟩ := s.keep id' b' P e'
    exact ⟨h1, h2, fun o hs => hs.elim (h3 o) fun e => hne (s.inj id' id b (.inl (h1.trans (congrArg some e))) (.inl hb))⟩
mutual
/-- A box's address, as that of a datum. -/
def fzD (id : Nat) (d0 : D) : D → D
  | .bx i off => if i = id then .pe d0 off else .bx i off
  | .agg ds => .agg (fzL id d0 ds)
  | .tup ds => .tup (fzL id d0 ds)
  | .fn f a b => .fn f (fzL id d0 a) (fzL id d0 b)
  | .any => .any
  | .raw v => .raw v
  | .sl tag sz ds => .sl tag sz ds
  | .ms i off n => .ms i off n
  | .mp i sz j fld => .mp i sz j fld
  | .sln n => .sln n
  | .pe d off => .pe d off
  | .ifc t d => .ifc t d
def fzL (id : Nat) (d0 : D) : List D → List D
  | [] => []
  | d :: ds => fzD id d0 d :: fzL id d0 ds
end
mutual
theorem fzD_rd {id b : Nat} {d0 : D} {u : Value} (hb : C.bx id = some b) (hu : Rd C w d0 u) (hc : ∀ i (h : i < u.cells.size), C.S b i ∧ w.cell? ⟨b, i, none⟩ = some u.cells[i]) : ∀ (d : D) (v : Value), Rd C w d v → Rd C w (fzD id d0 d) v
  | .bx i off, v, r => by
    simp only [fzD]
    split
    · rename_i hi
      subst hi
      obtain ⟨b', h1, rfl⟩ := r
      rw [hb] at h1
      cases h1
      exact ⟨b, 0, u, by rw [Nat.zero_add], hu, fun i hi => by rw [Nat.zero_add]; exact hc i hi⟩
    · exact r
  | .agg ds, v, ⟨vs, e, r⟩ => ⟨vs, e, fzL_rd hb hu hc ds vs r⟩
  | .tup ds, v, ⟨vs, e, r⟩ => ⟨vs, e, fzL_rd hb hu hc ds vs r⟩
  | .fn f a c, v, ⟨vs, us, e, r1, r2⟩ => ⟨vs, us, e, fzL_rd hb hu hc a vs r1, fzL_rd hb hu hc c us r2⟩
  | .any, _, r => r
  | .raw _, _, r => r
  | .sl _ _ _, _, r => r
  | .ms _ _ _, _, r => r
  | .mp _ _ _ _, _, r => r
  | .sln _, _, r => r
  | .pe _ _, _, r => r
  | .ifc _ _, _, r => r
theorem fzL_rd {id b : Nat} {d0 : D} {u : Value} (hb : C.bx id = some b) (hu : Rd C w d0 u) (hc : ∀ i (h : i < u.cells.size), C.S b i ∧ w.cell? ⟨b, i, none⟩ = some u.cells[i]) : ∀ (ds : List D) (vs : List Value), RdL C w ds vs → RdL C w (fzL id d0 ds) vs
  | [], _, r => r
  | d :: ds, _, ⟨v, rest, e, r1, r2⟩ => ⟨v, rest, e, fzD_rd hb hu hc d v r1, fzL_rd hb hu hc ds rest r2⟩
end
theorem one_cells {v : Value} (h : v.oneCell' = true) : v.cells = #[v] := by
  cases v <;> first | rfl | simp [Value.oneCell'] at h
theorem box_still (s : Sim C h w) {id : Nat} {t : TypeId} {bs : List D} {d0 : D} (e : h[id]? = some (.box t bs)) (hd : d0 = .agg bs ∨ bs = [d0]) :
    ∃ C', Fw C w C' w ∧ Sim C' (h.set id .dead) w ∧ ∀ ds vs, RdL C w ds vs → RdL C' w (fzL id d0 ds) vs := by
  obtain ⟨b, vs, h1, h2, h3, h4, _⟩ := s.box id t bs e
  have f : Fw C w (C.still b) w := Fw.still h1
  refine ⟨_, f, s.still e h1, fun ds us r => ?_⟩
  have h3' := h3.mono f.toEv
  have r' := r.mono f.toEv
  have hcell : ∀ i (hi : i < vs.size), w.cell? ⟨b, i, none⟩ = some vs[i] := fun i hi => by rw [cell_row h2, Array.getElem?_eq_getElem hi]
  rcases hd with rfl | rfl
  · have hu : Rd (C.still b) w (.agg bs) (.agg vs) := ⟨vs.toList, by simp, h3'⟩
    exact fzL_rd (C := C.still b) (u := .agg vs) h1 hu (fun i hi => ⟨.inr rfl, hcell i hi⟩) ds us r'
  · obtain ⟨v, rest, hv, r1, r2⟩ := h3'
    simp only [RdL] at r2
    subst r2
    have ho := one_cells (h4 v (by rw [hv]; exact List.mem_cons_self ..))
    have hvs : vs = #[v] := Array.ext' (by simpa using hv)
    subst hvs
    refine fzL_rd (C := C.still b) (u := v) h1 r1 (fun i hi => ⟨.inr rfl, ?_⟩) ds us r'
    have hi' : i < (#[v] : Array Value).size := by rw [← ho]; exact hi
    rw [hcell i hi']
    simp only [ho]
/-- A row that was filled, read as a slice of data. -/
theorem row_still (s : Sim C h w) {id n sz : Nat} {t : TypeId} {E : List (List D)} (e : h[id]? = some (.box t E.flatten)) (hE : ∀ r ∈ E, r.length = sz) (ds : List D) (hds : ∀ (j : Nat) (d : D), ds[j]? = some d → ∃ row, E[j]? = some row ∧ d = D.agg row) (hn : ds.length = n) :
    ∃ C', Fw C w C' w ∧ Sim C' (h.set id .dead) w ∧ ∀ v, Rd C w (.ms id 0 n) v → Rd C' w (.sl none sz ds) v := by
  obtain ⟨b, vs, h1, h2, h3, h4, _⟩ := s.box id t _ e
  have f : Fw C w (C.still b) w := Fw.still h1
  refine ⟨_, f, s.still e h1, fun v r => ?_⟩
  obtain ⟨b', cap, k1, rfl, k2, k3⟩ := r
  rw [h1] at k1
  cases k1
  have h3' := h3.mono f.toEv
  subst hn
  refine ⟨⟨_, cap, rfl, k2, k3⟩, fun _ => ⟨b, 0, cap, rfl, fun i _ => .inr rfl, RdE.mk fun i d hi => ?_⟩, fun _ e => by cases e⟩
  obtain ⟨row, hrow, rfl⟩ := hds i d hi
  obtain ⟨q1, q2⟩ := flat_at hE hrow
  have q3 : row.length = sz := hE row (List.mem_of_getElem? hrow)
  have r1 := (h3'.drop (i * sz)).take sz
  rw [q1] at r1
  have hlen := r1.len
  refine ⟨.agg ((vs.toList.drop (i * sz)).take sz).toArray, ⟨_, rfl, r1⟩, ?_, fun c hc => ?_, fun j hj => ?_⟩
  · show ((vs.toList.drop (i * sz)).take sz).toArray.size = sz
    rw [List.size_toArray, ← hlen, q3]
  · have hc' : c ∈ (vs.toList.drop (i * sz)).take sz := by simpa [Value.cells] using hc
    exact h4 c (List.mem_of_mem_drop (List.mem_of_mem_take hc'))
  · have hj' : j < ((vs.toList.drop (i * sz)).take sz).length := by simpa [Value.cells] using hj
    have hj2 : j < sz := by rw [← hlen, q3] at hj'; exact hj'
    have e1 : ((vs.toList.drop (i * sz)).take sz)[j]? = vs[i * sz + j]? := by
      rw [List.getElem?_take_of_lt hj2, List.getElem?_drop, Array.getElem?_toList]
    have e2 : (Value.agg ((vs.toList.drop (i * sz)).take sz).toArray).cells[j] = ((vs.toList.drop (i * sz)).take sz)[j] := by simp [Value.cells]
    simp only [Nat.zero_add]
    rw [cell_row h2, ← e1, List.getElem?_eq_getElem hj']
    exact congrArg some e2.symm
end
/-- One reading, turned into another one. -/
def Cv (d : D) (h : H) (d' : D) (h' : H) : Prop := ∀ (C : Cx) (w : World) (v : Value), Sim C h w → Rd C w d v → ∃ C', Fw C w C' w ∧ Sim C' h' w ∧ Rd C' w d' v
theorem CW.conv {P : Program} {k : FuncId} {ds : List D} {h : H} {Q R : D → H → Prop} (c : CW P k ds h Q) (hq : ∀ d h', Q d h' → ∃ d' h'', Cv d h' d' h'' ∧ R d' h'') : CW P k ds h R :=
  ⟨c.1, fun C w args s r => (c.2 C w args s r).mono fun e w' ⟨v, C', d, h', h1, h2, h3, h4, h5⟩ => by
    obtain ⟨d', h'', k1, k2⟩ := hq d h' h2
    obtain ⟨C2, f2, s2, r2⟩ := k1 C' w' v h4 h5
    exact ⟨v, C2, d', h'', h1, k2, h3.trans f2, s2, r2⟩⟩
theorem CallK.still {T : TP} {k : FuncId} {ds : List D} {h : H} {K : D → H → Prop} (id : Nat) {t : TypeId} {bs : List D} {d0 : D} (e : h[id]? = some (.box t bs)) (hd : d0 = .agg bs ∨ bs = [d0]) (k1 : CallK T k (fzL id d0 ds) (h.set id .dead) K) : CallK T k ds h K := by
  obtain ⟨Q, c, hq⟩ := k1.out
  refine ⟨Q, ⟨c.1, fun C w args s r => ?_⟩, hq⟩
  obtain ⟨C', f, s', hr⟩ := box_still s e hd
  refine (c.2 C' w args s' (hr _ _ r)).mono ?_
  rintro e' w' ⟨v, C'', d, h', h1, h2, f2, s2, r2⟩
  exact ⟨v, C'', d, h', h1, h2, f.trans f2, s2, r2⟩
end Go.Proofs.Ytbfmaicoefefaaa.Pv

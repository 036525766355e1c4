/- A row of fields (six cells each) that the call itself made: stores, what the sort asks and leaves; a row of types that the call itself made. -/
import Derived.Test.YtbfmaicoefefaaaTyF
import Derived.Test.YtbfmaicoefefaaaTyE
import Derived.Sort.OwnSorted
import Derived.Laws.OwnMore
set_option linter.unusedSimpArgs false
set_option linter.unusedVariables false
namespace Go.Proofs.Ytbfmaicoefefaaa
open Go.RowKit Go.Sort
/-- Two lists, related place by place. -/
inductive All2 {α β : Type} (R : α → β → Prop) : List α → List β → Prop where
  | nil : All2 R [] []
  | cons {a : α} {b : β} {l : List α} {m : List β} : R a b → All2 R l m → All2 R (a :: l) (b :: m)
theorem All2.len {α β : Type} {R : α → β → Prop} {l : List α} {m : List β} (h : All2 R l m) : l.length = m.length := by
  induction h with
  | nil => rfl
  | cons _ _ ih => simp [ih]
theorem All2.perm {α β : Type} {R : α → β → Prop} {l l' : List α} (hp : l'.Perm l) : ∀ {m : List β}, All2 R l m → ∃ m', m'.Perm m ∧ All2 R l' m' := by
  induction hp with
  | nil => exact fun h => ⟨_, .refl _, h⟩
  | cons x _ ih =>
    intro m h
    cases h with
    | cons hx h =>
      obtain ⟨m', h1, h2⟩ := ih h
      exact ⟨_, h1.cons _, .cons hx h2⟩
  | swap x y l =>
    intro m h
    cases h with
    | cons hx h =>
      cases h with
      | cons hy h => exact ⟨_, .swap _ _ _, .cons hy (.cons hx h)⟩
  | trans _ _ ih1 ih2 =>
    intro m h
    obtain ⟨m1, h1, h2⟩ := ih2 h
    obtain ⟨m2, h3, h4⟩ := ih1 h2
    exact ⟨m2, h3.trans h1, h4⟩
theorem All2.get {α β : Type} {R : α → β → Prop} : ∀ {l : List α} {m : List β} (_ : All2 R l m) {j : Nat} (h1 : j < l.length) (h2 : j < m.length), R l[j] m[j]
  | _, _, .cons h _, 0, _, _ => h
  | _, _, .cons _ h, j + 1, h1, h2 => h.get (j := j) (by simpa using h1) (by simpa using h2)
theorem all2_of {α β : Type} {R : α → β → Prop} : ∀ {l : List α} {m : List β} (_ : l.length = m.length) (_ : ∀ j (h1 : j < l.length) (h2 : j < m.length), R l[j] m[j]), All2 R l m
  | [], [], _, _ => .nil
  | a :: l, b :: m, h, hj => .cons (hj 0 (Nat.zero_lt_succ _) (Nat.zero_lt_succ _)) (all2_of (by simpa using h) fun j h1 h2 => hj (j + 1) (Nat.succ_lt_succ h1) (Nat.succ_lt_succ h2))
  | [], _ :: _, h, _ => by simp at h
  | _ :: _, [], h, _ => by simp at h
/-- A field's cells read as a label and a type. -/
def FVIs (w : World) (x : FV) (p : ByteArray × Ty5) : Prop := x.lb = p.1 ∧ TyIn w p.2 (.int .i64 x.k) (.int .i64 x.n) (.string x.nm) (.slice x.a x.l x.c) (.slice x.a' x.l' x.c')
theorem enc_len (x : FV) : x.enc.length = 6 := rfl
theorem flat_len (d : List FV) : (d.flatMap FV.enc).length = d.length * 6 := by
  induction d with
  | nil => rfl
  | cons x r ih =>
    simp only [List.flatMap_cons, List.length_append, enc_len, ih, List.length_cons]
    omega
theorem flat_set : ∀ (d : List FV) (i : Nat) (x : FV), i < d.length →
    ((((((d.flatMap FV.enc).set (i * 6) (.string x.lb)).set (i * 6 + 1) (.int .i64 x.k)).set (i * 6 + 2) (.int .i64 x.n)).set (i * 6 + 3) (.string x.nm)).set (i * 6 + 4) (.slice x.a x.l x.c)).set (i * 6 + 5) (.slice x.a' x.l' x.c') = (d.set i x).flatMap FV.enc
  | [], i, x, h => by simp at h
  | y :: r, 0, x, _ => by simp [FV.enc]
  | y :: r, i + 1, x, h => by
    have ih := flat_set r i x (by simpa using h)
    have e0 : (i + 1) * 6 = i * 6 + 1 + 1 + 1 + 1 + 1 + 1 := by omega
    have e1 : (i + 1) * 6 + 1 = i * 6 + 1 + 1 + 1 + 1 + 1 + 1 + 1 := by omega
    have e2 : (i + 1) * 6 + 2 = i * 6 + 2 + 1 + 1 + 1 + 1 + 1 + 1 := by omega
    have e3 : (i + 1) * 6 + 3 = i * 6 + 3 + 1 + 1 + 1 + 1 + 1 + 1 := by omega
    have e4 : (i + 1) * 6 + 4 = i * 6 + 4 + 1 + 1 + 1 + 1 + 1 + 1 := by omega
    have e5 : (i + 1) * 6 + 5 = i * 6 + 5 + 1 + 1 + 1 + 1 + 1 + 1 := by omega
    rw [e1, e2, e3, e4, e5, e0]
    simp only [List.flatMap_cons, List.set_cons_succ]
    simp only [FV.enc, List.cons_append, List.nil_append, List.set_cons_succ]
    rw [← ih]
theorem flat_getF : ∀ (d : List FV) (i c : Nat), (h : i < d.length) → c < 6 → (d.flatMap FV.enc)[i * 6 + c]? = d[i].enc[c]?
  | [], i, c, h, _ => by simp at h
  | y :: r, 0, c, _, hc => by
    simp only [List.flatMap_cons, Nat.zero_mul, Nat.zero_add, List.getElem_cons_zero]
    rw [List.getElem?_append_left (by rw [enc_len]; exact hc)]
  | y :: r, i + 1, c, h, hc => by
    have ih := flat_getF r i c (by simpa using h) hc
    have e : (i + 1) * 6 + c = i * 6 + c + 6 := by omega
    rw [e]
    simp only [List.flatMap_cons, List.getElem_cons_succ]
    rw [List.getElem?_append_right (by rw [enc_len]; omega), enc_len, Nat.add_sub_cancel]
    exact ih
/-- A store of six cells into the row. -/
theorem store6 {w : World} {base e n c g : Nat} {d : List FV} (h : w.ownsRow base e 6 (.slice (some ⟨g, 0, none⟩) n c) n (d.flatMap FV.enc)) {i : Nat} (hi : i < d.length) (x : FV) :
    ((((((w.setCell ⟨g, i * 6, none⟩ (.string x.lb)).setCell ⟨g, i * 6 + 1, none⟩ (.int .i64 x.k)).setCell ⟨g, i * 6 + 2, none⟩ (.int .i64 x.n)).setCell ⟨g, i * 6 + 3, none⟩ (.string x.nm)).setCell ⟨g, i * 6 + 4, none⟩ (.slice x.a x.l x.c)).setCell ⟨g, i * 6 + 5, none⟩ (.slice x.a' x.l' x.c')).ownsRow base e 6 (.slice (some ⟨g, 0, none⟩) n c) n ((d.set i x).flatMap FV.enc) := by
  rw [← flat_set d i x hi]
  exact (((((((h.stored _ _).1.stored _ _).1).stored _ _).1.stored _ _).1.stored _ _).1.stored _ _).1
/-- What the sort asks of the row. -/
theorem holds_row {w : World} {base e n c g : Nat} {d : List FV} (h : w.ownsRow base e 6 (.slice (some ⟨g, 0, none⟩) n c) n (d.flatMap FV.enc)) (hd : d.length = n) : HoldsK FV.enc 6 w g 0 d.toArray := by
  intro j hj
  have hj' : j < d.length * 6 := by simpa using hj
  refine ⟨?_, by rw [Nat.zero_add]; exact h.frozenAt j⟩
  have hc : j / 6 < d.length := by omega
  rw [Nat.zero_add, h.cellAt j (by rw [← hd]; exact hj'), get_flatK _ _ _ _ (by simpa using hj')]
  have := flat_getF d (j / 6) (j % 6) hc (by omega)
  rw [show j / 6 * 6 + j % 6 = j by omega] at this
  rw [this]
  have e1 : d.toArray[j / 6]! = d[j / 6] := by
    rw [getElem!_pos _ _ (by simpa using hc)]
    simp
  rw [e1]
  have hl : j % 6 < (d[j / 6]).enc.length := by rw [enc_len]; omega
  rw [List.getElem?_eq_getElem hl]
  congr 1
  exact (getElem!_pos (d[j / 6].enc) (j % 6) hl).symm
theorem grownBy_sortedK {w : World} {g n : Nat} {os : Array Obj} (d : Array FV) : w.grownBy (sortWorldK FV.enc 6 w g 0 n d os) (some g) := by
  unfold sortWorldK putRowK
  refine ⟨rfl, rfl, rfl, by simp [putRow, mapBlock, Sort.ahead, grow], fun k hk hne => ?_⟩
  rw [heap_grow_old _ _ (by simpa [putRow, mapBlock, Sort.ahead] using hk)]
  have : g ≠ k := fun e => hne (by rw [e])
  simp [putRow, mapBlock, Sort.ahead, Array.getElem?_modify, this]
theorem holds_sorted {w : World} {g n : Nat} {os : Array Obj} {d d' : Array FV} (hg : g < w.heap.size) (h : HoldsK FV.enc 6 w g 0 d) (hs : d'.size = d.size) : HoldsK FV.enc 6 (sortWorldK FV.enc 6 w g 0 n d' os) g 0 d' := by
  unfold sortWorldK
  refine holdsK_grow _ _ _ _ _ _ _ (by simpa [putRowK, putRow, mapBlock, Sort.ahead] using hg) ?_
  exact holdsK_putRowK _ _ _ _ _ d d' (holdsK_ahead _ _ _ _ _ _ _ h) hs
theorem holds_below {w w' : World} {g : Nat} {d : Array FV} (h : HoldsK FV.enc 6 w g 0 d) (hb : w'.heap[g]? = w.heap[g]?) : HoldsK FV.enc 6 w' g 0 d := fun j hj => by
  obtain ⟨h1, h2⟩ := h j hj
  exact ⟨(World.cell?_of_block (w := w) hb).trans h1, (World.frozen?_of_block (w := w) hb).trans h2⟩
theorem rowIn_of {w : World} : ∀ (ts : List Ty5) (b off : Nat), (∀ j (hj : j < ts.length), ∃ v0 v1 v2 v3 v4, w.cell? ⟨b, off + j * 5, none⟩ = some v0 ∧ w.cell? ⟨b, off + j * 5 + 1, none⟩ = some v1 ∧ w.cell? ⟨b, off + j * 5 + 2, none⟩ = some v2 ∧ w.cell? ⟨b, off + j * 5 + 3, none⟩ = some v3 ∧ w.cell? ⟨b, off + j * 5 + 4, none⟩ = some v4 ∧ TyIn w ts[j] v0 v1 v2 v3 v4) → RowIn w b off ts
  | [], _, _, _ => trivial
  | t :: r, b, off, h => ⟨by
      obtain ⟨v0, v1, v2, v3, v4, h0⟩ := h 0 (by simp)
      exact ⟨v0, v1, v2, v3, v4, by simpa using h0⟩, rowIn_of r b (off + 5) (fun j hj => by
        have := h (j + 1) (by simpa using hj)
        rw [show off + (j + 1) * 5 = off + 5 + j * 5 by omega] at this
        exact this)⟩
/-- A type's five cells, as they stand in a row of types. -/
def FV.ty (x : FV) : List Value := [.int .i64 x.k, .int .i64 x.n, .string x.nm, .slice x.a x.l x.c, .slice x.a' x.l' x.c']
theorem ty_len (d : List FV) : (d.flatMap FV.ty).length = d.length * 5 := by
  induction d with
  | nil => rfl
  | cons x r ih =>
    simp only [List.flatMap_cons, List.length_append, ih, List.length_cons]
    have : x.ty.length = 5 := rfl
    omega
theorem ty_get : ∀ (d : List FV) (i c : Nat), (h : i < d.length) → c < 5 → (d.flatMap FV.ty)[i * 5 + c]? = d[i].ty[c]?
  | [], i, c, h, _ => by simp at h
  | y :: r, 0, c, _, hc => by
    simp only [List.flatMap_cons, Nat.zero_mul, Nat.zero_add, List.getElem_cons_zero]
    rw [List.getElem?_append_left (show c < y.ty.length from hc)]
  | y :: r, i + 1, c, h, hc => by
    have ih := ty_get r i c (by simpa using h) hc
    have e : (i + 1) * 5 + c = i * 5 + c + 5 := by omega
    have l5 : y.ty.length = 5 := rfl
    rw [e]
    simp only [List.flatMap_cons, List.getElem_cons_succ]
    rw [List.getElem?_append_right (by rw [l5]; omega), l5, Nat.add_sub_cancel]
    exact ih
/-- A row of types that the call owns reads as types. -/
theorem kids_own {w : World} {base e n : Nat} {v : Value} {d : List FV} {P : List (ByteArray × Ty5)} (h : w.ownsRow base e 5 v n (d.flatMap FV.ty)) (hd : d.length = n) (hP : All2 (FVIs w) d P) : KidsAt w v (P.map Prod.snd) := by
  have hl := hP.len
  by_cases hn : n = 0
  · subst hn
    obtain rfl : d = [] := List.length_eq_zero_iff.1 hd
    cases hP
    rcases h.2 with ⟨rfl, _⟩ | ⟨g, cap, _, rfl, _⟩
    · exact .inl ⟨none, 0, rfl, rfl⟩
    · exact .inl ⟨_, cap, rfl, rfl⟩
  rcases h.2 with ⟨_, h0⟩ | ⟨g, cap, _, rfl, _⟩
  · exact absurd h0 hn
  refine .inr ⟨g, 0, cap, by rw [List.length_map, ← hl, hd], rowIn_of _ _ _ fun j hj => ?_⟩
  have hjP : j < P.length := by simpa using hj
  have hjd : j < d.length := by omega
  have hr := hP.get hjd hjP
  have c : ∀ q, q < 5 → w.cell? ⟨g, 0 + j * 5 + q, none⟩ = d[j].ty[q]? := fun q hq => by
    rw [Nat.zero_add, h.cellAt _ (by rw [← hd]; omega), ty_get d j q hjd hq]
  exact ⟨_, _, _, _, _, c 0 (by omega), c 1 (by omega), c 2 (by omega), c 3 (by omega), c 4 (by omega), by rw [List.getElem_map]; exact hr.2⟩
theorem FVIs.mono {w w' : World} {x : FV} {p : ByteArray × Ty5} (h : FVIs w x p) (hb : Below w.heap.size w w') : FVIs w' x p := ⟨h.1, h.2.mono hb⟩
theorem All2.mono {α β : Type} {R S : α → β → Prop} {l : List α} {m : List β} (h : All2 R l m) (hrs : ∀ a b, R a b → S a b) : All2 S l m := by
  induction h with
  | nil => exact .nil
  | cons h _ ih => exact .cons (hrs _ _ h) ih
end Go.Proofs.Ytbfmaicoefefaaa

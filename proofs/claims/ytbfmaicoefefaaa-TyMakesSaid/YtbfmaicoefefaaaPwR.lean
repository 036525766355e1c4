/- What a parameter is, read as data: integers, truths, texts, slices and structs of these. -/
import Derived.Test.YtbfmaicoefefaaaPwT
import Derived.Test.YtbfmaicoefefaaaRows
import Derived.ChangeArms
import Derived.WideShapes
set_option linter.unusedSimpArgs false
set_option linter.unusedVariables false
namespace Go.Proofs.Ytbfmaicoefefaaa.Pv
open Go Go.RowKit Go.WideShapes
def leavesD : D → List D
  | .agg ds => ds
  | d => [d]
mutual
/-- How much a datum holds: texts, slices and structs. -/
def bulkD : D → Nat
  | .raw (.string s) => s.size + 1
  | .sl _ _ ds => bulkL ds + 1
  | .agg ds => bulkL ds + 1
  | _ => 0
def bulkL : List D → Nat
  | [] => 0
  | d :: r => bulkD d + bulkL r
end
theorem bulkL_app : ∀ a b : List D, bulkL (a ++ b) = bulkL a + bulkL b
  | [], b => by simp [bulkL]
  | d :: r, b => by simp only [List.cons_append, bulkL, bulkL_app r b]; omega
theorem bulk_one (e : D) : bulkL [e] = bulkD e := by simp only [bulkL, Nat.add_zero]
theorem bulk_leaves (d : D) : bulkL (leavesD d) ≤ bulkD d := by
  cases d with
  | agg ds =>
    have h : bulkD (.agg ds) = bulkL ds + 1 := by simp only [bulkD]
    rw [h]
    exact Nat.le_succ _
  | _ => exact Nat.le_of_eq (bulk_one _)
theorem bulkL_pt {H : Type} : ∀ (ds : List D) (es : List (DataW H)), ds.length = es.length → (∀ (i : Nat) (d : D) (e : DataW H), ds[i]? = some d → es[i]? = some e → bulkD d ≤ Rows.uptoBulk e) → bulkL ds ≤ Rows.uptoBulkAll es
  | [], _, _, _ => by simp [bulkL]
  | d :: ds, [], h, _ => by simp at h
  | d :: ds, e :: es, h, hp => by
    have h0 := hp 0 d e rfl rfl
    have h1 := bulkL_pt ds es (by simpa using h) fun i d' e' h1 h2 => hp (i + 1) d' e' (by simpa using h1) (by simpa using h2)
    simp only [bulkL, Rows.uptoBulkAll]
    omega
theorem bulk_mem : ∀ {ds : List D} {d : D}, d ∈ ds → bulkD d ≤ bulkL ds
  | x :: r, d, h => by
    simp only [bulkL]
    rcases List.mem_cons.1 h with rfl | h
    · omega
    · have := bulk_mem h
      omega
/-- A datum of a type. -/
def Has (P : Program) : Nat → TypeId → D → Prop
  | 0, _, _ => False
  | n + 1, t, d => match P.underlying t with
    | some (.int k) => ∃ m, d = .raw (.int k m) ∧ (Lit.int k m).wf = true
    | some .bool => ∃ b, d = .raw (.bool b)
    | some .string => ∃ s : ByteArray, d = .raw (.string s) ∧ s.size ≤ maxLen
    | some (.slice e) => ∃ ds, d = .sl none (P.cellsOf e) ds ∧ ds.length ≤ maxLen ∧ ∀ x ∈ ds, Has P n e x
    | some (.struct fs) => ∃ xs : List D, d = .agg (xs.flatMap leavesD) ∧ xs.length = fs.size ∧ ∀ (i : Nat) (f : Field) (x : D), fs[i]? = some f → xs[i]? = some x → Has P n f.type x
    | _ => False
def tiles (P : Program) : Nat → List Field → Nat → Bool
  | off, [], total => off == total
  | off, f :: r, total => f.offset == off && tiles P (off + P.cellsOf f.type) r total
/-- Types that are read so. -/
structure Kinds (P : Program) (T : TypeId → Prop) : Prop where
  ok : ∀ t, T t → match P.underlying t with
    | some (.int _) | some .bool | some .string => P.cellsOf t = 1
    | some (.slice e) => P.cellsOf t = 1 ∧ T e ∧ 0 < P.cellsOf e
    | some (.struct fs) => tiles P 0 fs.toList (P.cellsOf t) = true ∧ ∀ f ∈ fs.toList, T f.type
    | _ => False
section
variable {P : Program} {T : TypeId → Prop} {H : Type} {enc : TypeId × Value → H} {w : World} {base : Nat} {spare : Nat → Bool} {held : Bool}
theorem parts_rd {C : Cx} {n : Nat} : ∀ (fs : List Field) (zs : List (DataW H)) (cs : List Value) (off total : Nat), cs.length = total → tiles P off fs total = true → off ≤ total →
    (∀ (i : Nat) (f : Field), fs[i]? = some f → ∃ y, zs[i]? = some y.1 ∧ DataW.trod enc P w base spare held n f.type ((cs.drop f.offset).take (P.cellsOf f.type)) = some y) →
    (∀ (f : Field), f ∈ fs → ∀ cs' y, DataW.trod enc P w base spare held n f.type cs' = some y → ∃ d, Has P n f.type d ∧ RdL C w (leavesD d) cs' ∧ (leavesD d).all leafD = true ∧ bulkD d ≤ Rows.uptoBulk y.1) →
    ∃ xs : List D, xs.length = fs.length ∧ RdL C w (xs.flatMap leavesD) (cs.drop off) ∧ (xs.flatMap leavesD).all leafD = true ∧ (∀ (i : Nat) (f : Field) (x : D), fs[i]? = some f → xs[i]? = some x → Has P n f.type x) ∧ bulkL (xs.flatMap leavesD) ≤ Rows.uptoBulkAll zs
  | [], zs, cs, off, total, hl, ht, hle, _, _ => by
    simp only [tiles, beq_iff_eq] at ht
    exact ⟨[], rfl, by rw [List.drop_eq_nil_of_le (by omega)]; rfl, rfl, fun i f x h => by simp at h, by simp [bulkL]⟩
  | f :: r, zs, cs, off, total, hl, ht, hle, hy, hr => by
    simp only [tiles, Bool.and_eq_true, beq_iff_eq] at ht
    obtain ⟨h1, h2⟩ := ht
    obtain ⟨y, hz0, hy0⟩ := hy 0 f rfl
    obtain ⟨zr, rfl⟩ : ∃ zr, zs = y.1 :: zr := by
      cases zs with
      | nil => simp at hz0
      | cons z zr => simp at hz0; exact ⟨zr, by rw [hz0]⟩
    obtain ⟨d, k1, k2, k3, k5⟩ := hr f (List.mem_cons_self ..) _ y hy0
    have hle2 : off + P.cellsOf f.type ≤ total := by
      have : ∀ (l : List Field) (o : Nat), tiles P o l total = true → o ≤ total := by
        intro l
        induction l with
        | nil => intro o h; simp only [tiles, beq_iff_eq] at h; omega
        | cons g l ih =>
          intro o h
          simp only [tiles, Bool.and_eq_true, beq_iff_eq] at h
          have := ih _ h.2
          omega
      exact this r _ h2
    obtain ⟨xs, j1, j2, j3, j4, j5⟩ := parts_rd (C := C) r zr cs (off + P.cellsOf f.type) total hl h2 hle2 (fun i g hg => hy (i + 1) g (by simpa using hg)) (fun g hg => hr g (List.mem_cons_of_mem _ hg))
    refine ⟨d :: xs, by simp [j1], ?_, ?_, fun i g x hg hx => ?_, ?_⟩
    · have e : cs.drop off = (cs.drop off).take (P.cellsOf f.type) ++ cs.drop (off + P.cellsOf f.type) := by
        rw [← List.drop_drop, List.take_append_drop]
      rw [e, List.flatMap_cons]
      rw [h1] at k2
      exact k2.app j2
    · rw [List.flatMap_cons, List.all_append, k3, j3]
      rfl
    · cases i with
      | zero =>
        simp at hg hx
        subst hg hx
        exact k1
      | succ i => exact j4 i g x (by simpa using hg) (by simpa using hx)
    · have := bulk_leaves d
      rw [List.flatMap_cons, bulkL_app]
      simp only [Rows.uptoBulkAll]
      omega
theorem list_of {R : Nat → D → Prop} : ∀ (len : Nat), (∀ i, i < len → ∃ d, R i d) → ∃ ds : List D, ds.length = len ∧ ∀ (i : Nat) (d : D), ds[i]? = some d → R i d
  | 0, _ => ⟨[], rfl, fun i d h => by simp at h⟩
  | m + 1, each => by
    obtain ⟨ds, h1, h2⟩ := list_of m fun i hi => each i (by omega)
    obtain ⟨d, h3⟩ := each m (by omega)
    refine ⟨ds ++ [d], by simp [h1], fun i x hx => ?_⟩
    by_cases him : i < ds.length
    · rw [List.getElem?_append_left him] at hx
      exact h2 i x hx
    · rw [List.getElem?_append_right (by omega)] at hx
      have h0 : i - ds.length = 0 := by
        have := (List.getElem?_eq_some_iff.1 hx).1
        simp at this
        omega
      rw [h0] at hx
      simp at hx
      subst hx
      have : i = m := by omega
      subst this
      exact h3
theorem trod_hasb (K : Kinds P T) : ∀ (fuel : Nat) (t : TypeId) (cs : List Value) (x : DataW H × List MemPlace), T t → DataW.trod enc P w base spare held fuel t cs = some x →
    ∃ d, Has P fuel t d ∧ RdL (bare (allS w)) w (leavesD d) cs ∧ (leavesD d).all leafD = true ∧ bulkD d ≤ Rows.uptoBulk x.1 := by
  intro fuel
  induction fuel with
  | zero => intro t cs x _ h; simp [DataW.trod] at h
  | succ n ih =>
    intro t cs x hT h
    have hk := K.ok t hT
    cases hu : P.underlying t with
    | none => rw [hu] at hk; exact hk.elim
    | some u =>
      rw [hu] at hk
      cases u with
      | int k =>
        obtain ⟨m, rfl, _, hw⟩ := DataW.trod_int hu h
        exact ⟨.raw (.int k m), by simp only [Has, hu]; exact ⟨m, rfl, hw⟩, ⟨_, _, rfl, rfl, rfl⟩, rfl, Nat.zero_le _⟩
      | bool =>
        obtain ⟨b, rfl, _⟩ := DataW.trod_bool hu h
        exact ⟨.raw (.bool b), by simp only [Has, hu]; exact ⟨b, rfl⟩, ⟨_, _, rfl, rfl, rfl⟩, rfl, Nat.zero_le _⟩
      | string =>
        obtain ⟨s, rfl, rfl, hs⟩ := DataW.trod_string hu h
        exact ⟨.raw (.string s), by simp only [Has, hu]; exact ⟨s, rfl, hs⟩, ⟨_, _, rfl, rfl, rfl⟩, rfl, by simp only [bulkD, Rows.uptoBulk]; rw [Array.length_toList]; exact Nat.le_refl _⟩
      | slice e =>
        simp only at hk
        rcases DataW.trod_slice hu h with ⟨rfl, rfl⟩ | ⟨a, len, cap, elems, rest, n', hn', rfl, rfl, hb, hl, hm, hel, hcell, _, _⟩
        · exact ⟨.sl none (P.cellsOf e) [], by simp only [Has, hu]; exact ⟨[], rfl, Nat.zero_le _, fun x h => by cases h⟩, ⟨_, _, rfl, ⟨⟨none, 0, rfl, Nat.le_refl _, Nat.zero_le _⟩, fun h => absurd h (by simp), fun id e => by cases e⟩, rfl⟩, rfl, by simp [bulkD, bulkL, Rows.uptoBulk]⟩
        · obtain rfl : n = n' := by omega
          have each : ∀ i, i < len → ∃ d, Has P n e d ∧ ∃ cs', w.cells? base (a.add (i * P.cellsOf e)) (P.cellsOf e) = some cs' ∧ RdL (bare (allS w)) w (leavesD d) cs' ∧ (leavesD d).all leafD = true ∧ ∀ e, (elems.map (·.1))[i]? = some e → bulkD d ≤ Rows.uptoBulk e := fun i hi => by
            have hc := hcell i hi
            rw [List.getElem?_eq_getElem (by omega)] at hc
            obtain ⟨cs', h1, h2⟩ := Option.bind_eq_some_iff.1 hc
            obtain ⟨d, k1, k2, k3, k4⟩ := ih e cs' _ hk.2.1 h2
            refine ⟨d, k1, cs', h1, k2, k3, fun y hy => ?_⟩
            rw [List.getElem?_map, List.getElem?_eq_getElem (by omega)] at hy
            cases hy
            exact k4
          obtain ⟨ds, hds, hget⟩ : ∃ ds : List D, ds.length = len ∧ ∀ i d, ds[i]? = some d → Has P n e d ∧ ∃ cs', w.cells? base (a.add (i * P.cellsOf e)) (P.cellsOf e) = some cs' ∧ RdL (bare (allS w)) w (leavesD d) cs' ∧ (leavesD d).all leafD = true ∧ ∀ e, (elems.map (·.1))[i]? = some e → bulkD d ≤ Rows.uptoBulk e := by
            exact list_of len each
          have hall : ∀ x ∈ ds, Has P n e x := fun x hx => by
            obtain ⟨i, hi, rfl⟩ := List.getElem_of_mem hx
            exact (hget i _ (List.getElem?_eq_getElem hi)).1
          refine ⟨.sl none (P.cellsOf e) ds, by simp only [Has, hu]; exact ⟨ds, rfl, by omega, hall⟩, ⟨_, _, rfl, ⟨⟨some a, cap, by rw [hds], by omega, hm⟩, fun h0 => ?_, fun id e => by cases e⟩, rfl⟩, rfl, ?_⟩
          rotate_left
          · have := bulkL_pt ds (elems.map (·.1)) (by rw [List.length_map]; omega) fun i d y h1 h2 => by
              obtain ⟨_, _, _, _, _, k⟩ := hget i d h1
              exact k y h2
            simp only [bulkD, Rows.uptoBulk]
            omega
          have hcsz : 0 < P.cellsOf e := hk.2.2
          obtain ⟨b, off, spot⟩ := a
          have hspot : spot = none := by
            obtain ⟨d, k1, cs', k2, k3, k4, _⟩ := each 0 (by omega)
            obtain ⟨_, hcl, hat⟩ := World.cells?_some k2
            have := hat 0 hcsz
            rw [List.getElem?_eq_getElem (by omega)] at this
            simpa [Addr.add] using World.cell?_spot this
          subst hspot
          have hadd : ∀ i : Nat, (⟨b, off, none⟩ : Addr).add i = ⟨b, off + i, none⟩ := fun i => by
            unfold Addr.add
            by_cases h : i = 0 <;> simp [h]
          have hcells : ∀ i, i < len → ∀ j, j < P.cellsOf e → w.cell? ⟨b, off + i * P.cellsOf e + j, none⟩ ≠ none := fun i hi j hj => by
            obtain ⟨d, k1, cs', k2, k3, k4, _⟩ := each i hi
            obtain ⟨_, hcl, hat⟩ := World.cells?_some k2
            have := hat j hj
            rw [Go.Deep.add_add, hadd, List.getElem?_eq_getElem (by omega), ← Nat.add_assoc] at this
            rw [this]
            simp
          have hblk : b < w.heap.size := by
            have := hcells 0 (by omega) 0 hcsz
            cases hc : w.cell? ⟨b, off + 0 * P.cellsOf e + 0, none⟩ with
            | none => exact absurd hc this
            | some v => exact World.block_lt_of_cell? w _ hc
          refine ⟨b, off, cap, by rw [hds], fun i hi => hblk, RdE.mk fun i d hd => ?_⟩
          obtain ⟨k1, cs', k2, k3, k4, _⟩ := hget i d hd
          obtain ⟨_, hcl, hat⟩ := World.cells?_some k2
          have hcj : ∀ j (hj : j < cs'.length), w.cell? ⟨b, off + (i * P.cellsOf e + j), none⟩ = some cs'[j] := fun j hj => by
            have := hat j (by omega)
            rw [Go.Deep.add_add, hadd, List.getElem?_eq_getElem hj] at this
            exact this
          have h1c := k3.leaves k4
          by_cases hag : ∃ es, d = .agg es
          · obtain ⟨es, rfl⟩ := hag
            refine ⟨.agg cs'.toArray, ⟨cs', rfl, k3⟩, by simp [Value.cells, hcl], fun c hc => h1c c (by simpa [Value.cells] using hc), fun j hj => ?_⟩
            simp only [Value.cells] at hj ⊢
            simpa using hcj j (by simpa using hj)
          · have hl1 : leavesD d = [d] := by
              cases d <;> first | rfl | exact absurd ⟨_, rfl⟩ hag
            rw [hl1] at k3
            obtain ⟨v, rest', rfl, k5, k6⟩ := k3
            simp only [RdL] at k6
            subst k6
            have ho : v.oneCell' = true := h1c v (by simp)
            have hvc : v.cells = #[v] := by
              cases v <;> first | rfl | cases ho
            refine ⟨v, k5, by rw [hvc, ← hcl]; rfl, fun c hc => by rw [hvc] at hc; simp at hc; rw [hc]; exact ho, fun j hj => ?_⟩
            have : j = 0 := by rw [hvc] at hj; simp at hj; omega
            subst this
            have := hcj 0 (by simp)
            simpa [hvc] using this
      | struct fs =>
        simp only at hk
        obtain ⟨xs, n', hn', rfl, hlen, hxl, hf⟩ := DataW.trod_struct hu h
        obtain rfl : n = n' := by omega
        obtain ⟨ys, h1, h2, h3, h4, h5⟩ := parts_rd (C := bare (allS w)) (enc := enc) (P := P) (w := w) (base := base) (spare := spare) (held := held) (n := n) fs.toList (xs.map (·.1)) cs 0 (P.cellsOf t) hlen hk.1 (Nat.zero_le _)
          (fun i f hi => by
            have hi' : fs[i]? = some f := by simpa using hi
            have := hf i f hi'
            have hlt : i < fs.size := (Array.getElem?_eq_some_iff.1 hi').1
            rw [List.getElem?_eq_getElem (by omega)] at this
            exact ⟨_, by rw [List.getElem?_map, List.getElem?_eq_getElem (by omega)]; rfl, this⟩)
          (fun f hfm cs' y hy => ih f.type cs' y (hk.2 f hfm) hy)
        refine ⟨.agg (ys.flatMap leavesD), by simp only [Has, hu]; exact ⟨ys, rfl, by simpa using h1, fun i f x hi hx => h4 i f x (by simpa using hi) hx⟩, by simpa [leavesD] using h2, h3, by simp only [bulkD, Rows.uptoBulk]; omega⟩
      | _ => exact hk.elim
theorem trodAll_of {v : Value} {t : TypeId} {d : DataW H} {p : List MemPlace} (h : DataW.Trod enc P w base spare held t v d p) : ∃ fuel, DataW.trod enc P w base spare held fuel t v.cells.toList = some (d, p) := h
/-- A parameter, read, and how much it holds. -/
theorem param_hasb (K : Kinds P T) {t : TypeId} (hT : T t) {r : Reach} {b0 : Nat} {v : Value} {d : DataW H} {p : List MemPlace} (hv : Value.okWide P w r b0 t v) (h : DataW.Trod enc P w base spare held t v d p) : ∃ n x, Has P n t x ∧ Rd (bare (allS w)) w x v ∧ bulkD x ≤ Rows.uptoBulk d := by
  obtain ⟨fuel, hf⟩ := trodAll_of h
  obtain ⟨x, h1, h2, h3, h5⟩ := trod_hasb K fuel t _ _ hT hf
  refine ⟨fuel, x, h1, ?_, h5⟩
  have one : ∀ u : Value, v.cells = #[u] → v = u → (∀ ds, x ≠ .agg ds) → Rd (bare (allS w)) w x v := fun u hu hvu hx => by
    have hl : leavesD x = [x] := by cases x <;> first | rfl | exact absurd rfl (hx _)
    rw [hl, hu] at h2
    obtain ⟨u', r', e, k1, k2⟩ := h2
    simp at e
    rw [hvu, e.1]
    exact k1
  cases fuel with
  | zero => simp [Has] at h1
  | succ n =>
    have hk := K.ok t hT
    simp only [Has] at h1
    cases hu : P.underlying t with
    | none => rw [hu] at h1; exact h1.elim
    | some u =>
      rw [hu] at h1
      cases u with
      | int k =>
        obtain ⟨m, rfl⟩ := okWide_int hu hv
        obtain ⟨_, rfl, _⟩ := h1
        exact one _ rfl rfl fun ds => by simp
      | bool =>
        obtain ⟨m, rfl⟩ := okWide_bool hu hv
        obtain ⟨_, rfl⟩ := h1
        exact one _ rfl rfl fun ds => by simp
      | string =>
        obtain ⟨m, rfl⟩ := okWide_string hu hv
        obtain ⟨_, rfl, _⟩ := h1
        exact one _ rfl rfl fun ds => by simp
      | slice e =>
        obtain ⟨a, l, c, rfl⟩ := okWide_slice hu hv
        obtain ⟨_, rfl, _⟩ := h1
        exact one _ rfl rfl fun ds => by simp
      | struct fs =>
        obtain ⟨cs, rfl, _⟩ := okWide_struct hu hv
        obtain ⟨xs, rfl, _⟩ := h1
        exact ⟨cs.toList, by simp, h2⟩
      | _ => exact h1.elim
theorem param_has (K : Kinds P T) {t : TypeId} (hT : T t) {r : Reach} {b0 : Nat} {v : Value} {d : DataW H} {p : List MemPlace} (hv : Value.okWide P w r b0 t v) (h : DataW.Trod enc P w base spare held t v d p) : ∃ n x, Has P n t x ∧ Rd (bare (allS w)) w x v := by
  obtain ⟨n, x, h1, h2, _⟩ := param_hasb K hT hv h
  exact ⟨n, x, h1, h2⟩
theorem Has.int {n : Nat} {t : TypeId} {k : IntKind} {d : D} (h : Has P n t d) (hu : P.underlying t = some (.int k)) : ∃ m, d = .raw (.int k m) ∧ (Lit.int k m).wf = true := by
  cases n with
  | zero => exact h.elim
  | succ n => simpa only [Has, hu] using h
theorem Has.bool {n : Nat} {t : TypeId} {d : D} (h : Has P n t d) (hu : P.underlying t = some .bool) : ∃ b, d = .raw (.bool b) := by
  cases n with
  | zero => exact h.elim
  | succ n => simpa only [Has, hu] using h
theorem Has.str {n : Nat} {t : TypeId} {d : D} (h : Has P n t d) (hu : P.underlying t = some .string) : ∃ s : ByteArray, d = .raw (.string s) ∧ s.size ≤ maxLen := by
  cases n with
  | zero => exact h.elim
  | succ n => simpa only [Has, hu] using h
theorem Has.slice {n : Nat} {t e : TypeId} {d : D} (h : Has P n t d) (hu : P.underlying t = some (.slice e)) : ∃ m ds, n = m + 1 ∧ d = .sl none (P.cellsOf e) ds ∧ ds.length ≤ maxLen ∧ ∀ x ∈ ds, Has P m e x := by
  cases n with
  | zero => exact h.elim
  | succ n =>
    simp only [Has, hu] at h
    obtain ⟨ds, h1, h2, h3⟩ := h
    exact ⟨n, ds, rfl, h1, h2, h3⟩
theorem Has.struct {n : Nat} {t : TypeId} {fs : Array Field} {d : D} (h : Has P n t d) (hu : P.underlying t = some (.struct fs)) : ∃ (m : Nat) (xs : List D), n = m + 1 ∧ d = .agg (xs.flatMap leavesD) ∧ xs.length = fs.size ∧ ∀ (i : Nat) (f : Field) (x : D), fs[i]? = some f → xs[i]? = some x → Has P m f.type x := by
  cases n with
  | zero => exact h.elim
  | succ n =>
    simp only [Has, hu] at h
    obtain ⟨xs, h1, h2, h3⟩ := h
    exact ⟨n, xs, rfl, h1, h2, h3⟩
/-- A row of texts. -/
theorem Has.strs {n : Nat} {t e : TypeId} {d : D} (h : Has P n t d) (hu : P.underlying t = some (.slice e)) (he : P.underlying e = some .string) (hc : P.cellsOf e = 1) : ∃ ls : List ByteArray, d = .sl none 1 (ls.map fun s => .raw (.string s)) ∧ ls.length ≤ maxLen ∧ ∀ s ∈ ls, s.size ≤ maxLen := by
  obtain ⟨m, ds, _, rfl, h2, h3⟩ := h.slice hu
  rw [hc]
  have : ∃ ls : List ByteArray, ds = ls.map (fun s => D.raw (.string s)) ∧ ∀ s ∈ ls, s.size ≤ maxLen := by
    clear h2 h
    induction ds with
    | nil => exact ⟨[], rfl, fun s h => by cases h⟩
    | cons x r ih =>
      obtain ⟨ls, h4, h5⟩ := ih fun y hy => h3 y (List.mem_cons_of_mem _ hy)
      obtain ⟨s, rfl, hs⟩ := (h3 x (List.mem_cons_self ..)).str he
      refine ⟨s :: ls, by simp [h4], fun y hy => ?_⟩
      rcases List.mem_cons.1 hy with rfl | hy
      · exact hs
      · exact h5 y hy
  obtain ⟨ls, rfl, h4⟩ := this
  exact ⟨ls, rfl, by simpa using h2, h4⟩
end
end Go.Proofs.Ytbfmaicoefefaaa.Pv

/- The evaluator over data (see NOTES, 'Pv'): part Pv4. -/
import Derived.Test.YtclhomkgphdagaaPv3
import Derived.WalkKit
namespace Go.Proofs.Ytclhomkgphdagaa.Pv
open Go Go.RowKit
/-! ### What runs without memory -/
def pureRun {α : Type} (P : Program) : Sem α → Option α
  | .pure a => some a
  | .program k => pureRun P (k P)
  | .mark _ k => pureRun P k
  | _ => none
theorem pureRun_sound {α : Type} {P : Program} : ∀ {s : Sem α} {a : α}, pureRun P s = some a → ∀ w, s.run P w = .ok a w
  | .pure b, a, h, w => by simp only [pureRun, Option.some.injEq] at h; subst h; rfl
  | .program k, a, h, w => by simp only [pureRun] at h; exact pureRun_sound (s := k P) h w
  | .mark _ k, a, h, w => by simp only [pureRun] at h; exact pureRun_sound (s := k) h w
  | .load .., _, h, _ | .store .., _, h, _ | .new .., _, h, _ | .shape .., _, h, _ | .freeze .., _, h, _ | .frozen .., _, h, _ | .getObj .., _, h, _ | .setObj .., _, h, _ | .choose .., _, h, _ | .sys .., _, h, _ | .halt _, _, h, _ => by simp [pureRun] at h
def rawV : D → Value
  | .raw v => v
  | _ => undef
def isRaw : D → Bool
  | .raw _ => true
  | _ => false
def isSelect : Op → Bool
  | .select .. => true
  | _ => false
def rawOp (P : Program) (ρ : Operand → D) (o : Oper) : Option D :=
  if o.op.operands.all (fun x => isRaw (ρ x)) && !isSelect o.op then
    match pureRun P (execOp (fun x => rawV (ρ x)) o) with
    | some (.value v) => some (.raw v)
    | _ => none
  else none
section
variable {P : Program} {C : Cx} {h : H} {w : World}
def Reads (C : Cx) (w : World) (ρ : Operand → D) (ρv : Operand → Value) : Prop := ∀ x, Rd C w (ρ x) (ρv x)
theorem rawOp_sound {ρ : Operand → D} {ρv : Operand → Value} {o : Oper} {d : D} (hr : Reads C w ρ ρv) (e : rawOp P ρ o = some d) : ∃ v, (execOp ρv o).run P w = .ok (.value v) w ∧ Rd C w d v := by
  unfold rawOp at e
  split at e
  · rename_i hc
    simp only [Bool.and_eq_true, Bool.not_eq_true'] at hc
    have he : execOp ρv o = execOp (fun x => rawV (ρ x)) o := by
      refine execOp_congr o (fun cs b hs => by rw [hs] at hc; simp [isSelect] at hc) fun x hx => ?_
      have h1 := (Array.all_eq_true_iff_forall_mem.1 hc.1) x hx
      have h2 := hr x
      cases hd : ρ x with
      | raw v => rw [hd] at h2; simpa [rawV, Rd] using h2
      | _ => rw [hd] at h1; simp [isRaw] at h1
    split at e
    · rename_i v hv
      cases e
      exact ⟨v, by rw [he]; exact pureRun_sound hv w, rfl⟩
    · cases e
  · cases e
/-! ### Good: what an operation comes to -/
def Good (P : Program) (C : Cx) (w : World) (r : Result Next) (d : D) (h' : H) : Prop :=
  ∃ v C' w', (r = .ok (.value v) w' ∨ (r = .ok .skip w' ∧ v = undef)) ∧ Fw C w C' w' ∧ Sim C' h' w' ∧ Rd C' w' d v
theorem Good.same (s : Sim C h w) {r : Result Next} {d : D} {v : Value} (e : r = .ok (.value v) w) (hd : Rd C w d v) : Good P C w r d h :=
  ⟨v, C, w, .inl e, Fw.refl _ _, s, hd⟩
/-! ### Types -/
def aggP (P : Program) (t : TypeId) : Option (Bool × Nat) :=
  match P.underlying t, P.info? t with
  | some d, some i => some (d.isRow, i.size)
  | _, _ => none
def partD (P : Program) (t : TypeId) (ds : List D) (off : Nat) : Option D :=
  match aggP P t with
  | some (true, sz) => if off + sz ≤ ds.length then some (.agg ((ds.drop off).take sz)) else none
  | some (false, _) => ds[off]?
  | none => none
theorem aggP_some {t : TypeId} {b : Bool} {n : Nat} (e : aggP P t = some (b, n)) : ∃ d i, P.underlying t = some d ∧ P.info? t = some i ∧ d.isRow = b ∧ i.size = n := by
  unfold aggP at e
  split at e
  · rename_i d i h1 h2
    simp at e
    exact ⟨d, i, h1, h2, e.1, e.2⟩
  · cases e
theorem run_isAgg {t : TypeId} {d : TypeDesc} (hu : P.underlying t = some d) (w : World) : (isAgg t).run P w = .ok d.isRow w := by
  unfold isAgg
  rw [Sem.run_bind, run_underlying hu w]
  cases d <;> rfl
theorem loadVar_part {t : TypeId} {ds : List D} {off : Nat} {d : D} (e : partD P t ds off = some d) {vs : List Value} (r : RdL C w ds vs) {b o : Nat} (hc : ∀ i (hi : i < vs.length), w.cell? ⟨b, o + i, none⟩ = some vs[i]) :
    ∃ v, (loadVar t ⟨b, o + off, none⟩).run P w = .ok v w ∧ Rd C w d v := by
  unfold partD at e
  split at e
  · rename_i sz ha
    obtain ⟨ds', i, h1, h2, h3, h4⟩ := aggP_some ha
    split at e
    · rename_i hle
      cases e
      refine ⟨.agg ((vs.drop off).take sz).toArray, ?_, _, rfl, (r.drop off).take sz⟩
      refine run_loadVar_mid w b (o + off) t ((vs.drop off).take sz) ds' (fun j v hv => ?_) h1 h3 ?_
      · have hj := (List.getElem?_eq_some_iff.1 hv).1
        simp at hj
        rw [List.getElem?_take_of_lt (by omega), List.getElem?_drop] at hv
        obtain ⟨hlt, rfl⟩ := List.getElem?_eq_some_iff.1 hv
        rw [Nat.add_assoc]
        exact hc _ hlt
      · rw [h2]
        simp [h4]
        have := r.len
        omega
    · cases e
  · rename_i sz ha
    obtain ⟨ds', i, h1, h2, h3, h4⟩ := aggP_some ha
    obtain ⟨v, hv, hr⟩ := r.get e
    obtain ⟨hlt, rfl⟩ := List.getElem?_eq_some_iff.1 hv
    refine ⟨_, ?_, hr⟩
    unfold loadVar
    rw [Sem.run_bind, run_isAgg h1 w, h3]
    simp [hc _ hlt]
  · cases e
/-! ### load, store -/
def loadD (P : Program) (h : H) (t : TypeId) : D → Option D
  | .bx id off => match h[id]? with | some (.box _ ds) => partD P t ds off | _ => none
  | .pe d off => match cellsD d with | some ds => partD P t ds off | none => none
  | _ => none
theorem loadD_sound (s : Sim C h w) {t : TypeId} {a d : D} {av : Value} (ha : Rd C w a av) (e : loadD P h t a = some d) : ∃ v, (Instr.loadAt t av).run P w = .ok v w ∧ Rd C w d v := by
  unfold loadD at e
  split at e
  · rename_i id off
    split at e
    · rename_i bt ds hb
      obtain ⟨b, vs, h1, h2, h3, h4, h5⟩ := s.box id bt ds hb
      obtain ⟨b', hb', rfl⟩ := ha
      rw [h1] at hb'
      cases hb'
      obtain ⟨v, hv, hr⟩ := loadVar_part (P := P) e h3 (b := b) (o := 0) (fun i hi => by
        rw [Nat.zero_add, cell_row h2, Array.getElem?_eq_getElem (by simpa using hi)]
        simp)
      rw [Nat.zero_add] at hv
      refine ⟨v, ?_, hr⟩
      simp only [Instr.loadAt, Instr.sureAddr, Sem.run_bind, Sem.run_pure, Result.andThen_ok, hv]
    · cases e
  · rename_i d0 off
    split at e
    · rename_i ds hcd
      obtain ⟨b, o, u, rfl, hr, hc⟩ := ha
      obtain ⟨v, hv, hr'⟩ := loadVar_part (P := P) e (hr.cells hcd) (b := b) (o := o) (fun i hi => by
        have := (hc i (by simpa using hi)).2
        simpa using this)
      refine ⟨v, ?_, hr'⟩
      simp only [Instr.loadAt, Instr.sureAddr, Sem.run_bind, Sem.run_pure, Result.andThen_ok, hv]
    · cases e
  · cases e
def storeD (P : Program) (h : H) (t : TypeId) (a x : D) : Option H :=
  match a with
  | .bx id off =>
    match h[id]?, cellsD x, P.info? t with
    | some (.box bt ds), some es, some i => if es.length = i.size ∧ off + es.length ≤ ds.length ∧ es.all leafD = true then some (h.set id (.box bt (splice ds off es))) else none
    | _, _, _ => none
  | _ => none
theorem splice_toArray {α : Type} (vs : Array α) (off : Nat) (us : List α) : (vs.toList.take (off + 0) ++ us ++ vs.toList.drop (off + 0 + us.length)) = splice vs.toList off us := by
  simp [splice]
theorem storeD_sound (s : Sim C h w) {t : TypeId} {a x : D} {av xv : Value} {h' : H} (ha : Rd C w a av) (hx : Rd C w x xv) (e : storeD P h t a x = some h') :
    ∃ w', (Instr.storeAt t av xv).run P w = .ok () w' ∧ Fw C w C w' ∧ Sim C h' w' := by
  unfold storeD at e
  split at e
  · rename_i id off
    split at e
    · rename_i bt ds es i h1 h2 h3
      split at e
      · rename_i hc
        cases e
        obtain ⟨b, vs, k1, k2, k3, k4, k5⟩ := s.box id bt ds h1
        obtain ⟨b', hb', rfl⟩ := ha
        rw [k1] at hb'
        cases hb'
        have hr := hx.cells h2
        have hl := hr.len
        have hone := hr.leaves hc.2.2
        have hdl := k3.len
        have hrun := run_storeCells_at P b off bt xv.cells.toList 0 vs w k2 (by simp at hl hdl ⊢; omega) hone
        rw [splice_toArray] at hrun
        refine ⟨_, ?_, Sim.store s h1 k1 k2 k5 (us := (splice vs.toList off xv.cells.toList).toArray) (by simpa using k3.splice hr off) ?_⟩
        · simp only [Instr.storeAt, Instr.sureAddr, Sem.run_bind, Sem.run_pure, Result.andThen_ok, storeVar, sizeOf, typeInfo, run_program, h3]
          have : xv.cells.size = i.size := by simp at hl; omega
          simp [this]
          exact hrun
        · intro u hu
          simp only [splice, List.mem_append] at hu
          rcases hu with (hu | hu) | hu
          · exact k4 u (List.mem_of_mem_take hu)
          · exact hone u hu
          · exact k4 u (List.mem_of_mem_drop hu)
      · cases e
    · cases e
  · cases e
/-! ### alloc, box -/
def zeroD (P : Program) (t : TypeId) : Option (List D) :=
  match P.info? t with
  | some i => match i.zero with
    | some z => if z.cells.all (·.oneCell') = true then some (z.cells.toList.map D.raw) else none
    | none => none
  | none => none
theorem zeroD_some {t : TypeId} {ds : List D} (e : zeroD P t = some ds) : ∃ i z, P.info? t = some i ∧ i.zero = some z ∧ (∀ u ∈ z.cells.toList, u.oneCell' = true) ∧ ds = z.cells.toList.map D.raw := by
  unfold zeroD at e
  split at e
  · rename_i i hi
    split at e
    · rename_i z hz
      split at e
      · rename_i hc
        cases e
        exact ⟨i, z, hi, hz, fun u hu => (Array.all_eq_true_iff_forall_mem.1 hc) u (by simpa using hu), rfl⟩
      · cases e
    · cases e
  · cases e
theorem box_good (s : Sim C h w) (t : TypeId) {v : Value} {ds : List D} (r : RdL C w ds v.cells.toList) (h1 : ∀ u ∈ v.cells.toList, u.oneCell' = true) :
    ∃ C' w' v', (newVar t v).run P w = .ok v' w' ∧ Fw C w C' w' ∧ Sim C' (h ++ [.box t ds]) w' ∧ Rd C' w' (.bx h.length 0) (.pointer (some v')) := by
  obtain ⟨C', f, s', hb⟩ := s.box_new t (vs := v.cells) r h1
  refine ⟨C', w.alloc (.cells v.cells t), ⟨w.heap.size, 0, none⟩, ?_, f, s', ?_⟩
  · simp [newVar, newRow]
  · exact ⟨_, hb, rfl⟩
/-! ### fieldAddr, indexAddr, slice, len -/
def fieldP (P : Program) (s : TypeId) (f : Nat) : Option (Nat × TypeId) :=
  match P.underlying s with
  | some (.struct fs) => match fs[f]? with
    | some fl => match P.info? fl.type with
      | some i => if i.size = 0 then none else some (fl.offset, fl.type)
      | none => none
    | none => none
  | _ => none
def moveP (n : Nat) : D → Option D
  | .bx id off => some (.bx id (off + n))
  | .pe d off => some (.pe d (off + n))
  | _ => none
theorem moveP_sound {n : Nat} {a d : D} {av : Value} (ha : Rd C w a av) (e : moveP n a = some d) : ∃ p : Addr, av = .pointer (some p) ∧ Rd C w d (.pointer (some (p.add n))) := by
  unfold moveP at e
  split at e
  · cases e
    obtain ⟨b, hb, rfl⟩ := ha
    exact ⟨_, rfl, b, hb, by rw [Addr.add_mid]⟩
  · cases e
    obtain ⟨b, o, u, rfl, hr, hc⟩ := ha
    exact ⟨_, rfl, b, o, u, by rw [Addr.add_mid, Nat.add_assoc], hr, hc⟩
  · cases e
theorem fieldAddr_sound {st : TypeId} {f n : Nat} {ft : TypeId} {a d : D} {av : Value} (hf : fieldP P st f = some (n, ft)) (ha : Rd C w a av) (e : moveP n a = some d) : ∃ v, (Instr.fieldAt st av f).run P w = .ok v w ∧ Rd C w d v := by
  obtain ⟨p, rfl, hr⟩ := moveP_sound ha e
  unfold fieldP at hf
  split at hf
  · rename_i fs h1
    split at hf
    · rename_i fl h2
      split at hf
      · rename_i i h3
        split at hf
        · cases hf
        · rename_i h4
          simp at hf
          obtain ⟨rfl, rfl⟩ := hf
          refine ⟨_, ?_, hr⟩
          simp [Instr.fieldAt, run_underlying h1, h2, Instr.sureAddr, fieldPlace, sizeOf, typeInfo, h3, h4]
      · cases hf
    · cases hf
  · cases hf
theorem RdE.get {sz : Nat} : ∀ {ds : List D} {f : Nat → Option Value}, RdE C w sz ds f → ∀ {i : Nat} {d : D}, ds[i]? = some d → ∃ u, Rd C w d u ∧ u.cells.size = sz ∧ (∀ c ∈ u.cells.toList, c.oneCell' = true) ∧ ∀ j (hj : j < u.cells.size), f (i * sz + j) = some u.cells[j]
  | [], _, _, _, _, e => by simp at e
  | x :: ds, f, ⟨⟨u, h1, h2, ho, h3⟩, _⟩, 0, d, e => by
    simp at e
    subst e
    exact ⟨u, h1, h2, ho, fun j hj => by rw [Nat.zero_mul, Nat.zero_add]; exact h3 j hj⟩
  | x :: ds, f, ⟨_, r⟩, i + 1, d, e => by
    simp at e
    obtain ⟨u, h1, h2, ho, h3⟩ := r.get e
    exact ⟨u, h1, h2, ho, fun j hj => by
      have := h3 j hj
      rw [← this]
      congr 1
      rw [Nat.add_mul, Nat.one_mul]
      omega⟩
theorem RdE.mk {sz : Nat} : ∀ {ds : List D} {f : Nat → Option Value}, (∀ i d, ds[i]? = some d → ∃ u, Rd C w d u ∧ u.cells.size = sz ∧ (∀ c ∈ u.cells.toList, c.oneCell' = true) ∧ ∀ j (hj : j < u.cells.size), f (i * sz + j) = some u.cells[j]) → RdE C w sz ds f
  | [], _, _ => trivial
  | x :: ds, f, h => by
    refine ⟨?_, RdE.mk fun i d e => ?_⟩
    · obtain ⟨u, h1, h2, ho, h3⟩ := h 0 x rfl
      exact ⟨u, h1, h2, ho, fun j hj => by have := h3 j hj; rwa [Nat.zero_mul, Nat.zero_add] at this⟩
    · obtain ⟨u, h1, h2, ho, h3⟩ := h (i + 1) d (by simpa using e)
      exact ⟨u, h1, h2, ho, fun j hj => by
        have := h3 j hj
        rw [← this]
        congr 1
        rw [Nat.add_mul, Nat.one_mul]
        omega⟩
def elemP (P : Program) (t : TypeId) : Option (TypeId × TypeInfo) :=
  match P.underlying t with
  | some (.slice e) => match P.info? e with
    | some i => some (e, i)
    | none => none
  | _ => none
theorem elemP_some {t e : TypeId} {i : TypeInfo} (h : elemP P t = some (e, i)) : P.underlying t = some (.slice e) ∧ P.info? e = some i := by
  unfold elemP at h
  split at h
  · rename_i e' h1
    split at h
    · rename_i i' h2
      simp at h
      obtain ⟨rfl, rfl⟩ := h
      exact ⟨h1, h2⟩
    · cases h
  · cases h
def indexD (P : Program) (t : TypeId) (x i : D) : Option D :=
  match elemP P t, x, i with
  | some (_, inf), .sl _ sz ds, .raw (.int _ n) => if 0 ≤ n ∧ inf.size = sz then (ds[n.toNat]?).map (.pe · 0) else none
  | some (_, inf), .ms id off len, .raw (.int _ n) => if 0 ≤ n ∧ n.toNat < len then some (.bx id (off + n.toNat * inf.size)) else none
  | _, _, _ => none
theorem indexD_sound {t : TypeId} {x i d : D} {xv iv : Value} (hx : Rd C w x xv) (hi : Rd C w i iv) (e : indexD P t x i = some d) : ∃ v, (Instr.indexAt t xv iv).run P w = .ok v w ∧ Rd C w d v := by
  unfold indexD at e
  split at e
  · rename_i _ _ _ el inf tag sz ds k n hel
    split at e
    · rename_i hc
      obtain ⟨hn, hsz⟩ := hc
      rw [Option.map_eq_some_iff] at e
      obtain ⟨y, hy, rfl⟩ := e
      obtain ⟨hlt, rfl⟩ := List.getElem?_eq_some_iff.1 hy
      obtain ⟨h1, h2⟩ := elemP_some hel
      obtain ⟨_, hx2, _⟩ := hx
      obtain ⟨b, off, cap, rfl, hs, hr⟩ := hx2 (by omega)
      simp only [Rd] at hi
      subst hi
      obtain ⟨u, k1, k2, _, k3⟩ := hr.get hy
      refine ⟨.pointer (some ⟨b, off + n.toNat * sz, none⟩), ?_, b, off + n.toNat * sz, u, rfl, k1, fun j hj => ⟨?_, ?_⟩⟩
      · have hlt' : n < (ds.length : Int) := by omega
        simp [Instr.indexAt, asIntOf, run_underlying h1, sizeOf, typeInfo, h2, hn, hlt', hsz, Addr.add_mid]
      · rw [Nat.add_assoc]
        refine hs _ ?_
        have h1 : (n.toNat + 1) * sz ≤ ds.length * sz := Nat.mul_le_mul_right _ hlt
        rw [Nat.add_mul, Nat.one_mul] at h1
        omega
      · rw [Nat.add_assoc]
        exact k3 j hj
    · cases e
  · rename_i _ _ _ el inf id off len k n hel
    split at e
    · rename_i hc
      obtain ⟨hn, hlt⟩ := hc
      cases e
      obtain ⟨h1, h2⟩ := elemP_some hel
      obtain ⟨b, cap, hb, rfl, _⟩ := hx
      simp only [Rd] at hi
      subst hi
      have hlt' : n < (len : Int) := by omega
      exact ⟨.pointer (some ⟨b, off + n.toNat * inf.size, none⟩), by simp [Instr.indexAt, asIntOf, run_underlying h1, sizeOf, typeInfo, h2, hn, hlt', Addr.add_mid], b, hb, rfl⟩
    · cases e
  · cases e
end
end Go.Proofs.Ytclhomkgphdagaa.Pv

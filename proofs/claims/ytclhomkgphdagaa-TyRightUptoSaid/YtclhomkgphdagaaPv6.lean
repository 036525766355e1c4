/- The evaluator over data (see NOTES, 'Pv'): part Pv6. -/
import Derived.Test.YtclhomkgphdagaaPv5
import Derived.Deep.Upon
namespace Go.Proofs.Ytclhomkgphdagaa.Pv
open Go Go.RowKit
section
variable {P : Program} {C : Cx} {h : H} {w : World}
def roomy (n b : Nat) : Bool := decide (n ≤ 140737488355328) && decide (n * b ≤ 140737488355328)
theorem roomy_some {n b : Nat} (e : roomy n b = true) : n ≤ maxLen ∧ n * b ≤ 140737488355328 := by
  simp only [roomy, Bool.and_eq_true, decide_eq_true_eq] at e
  exact ⟨by unfold maxLen; omega, e.2⟩
def appendD (P : Program) (h : H) (t tx : TypeId) (s x : D) : Option (D × H) :=
  match elemP P t with
  | some (e, inf) =>
    match srcD P tx inf.size x with
    | some ys =>
      if 0 < inf.size ∧ inf.zero.map (·.cells.size) = some inf.size then
        match s with
        | .raw (.slice none 0 0) => if roomy ys.length inf.bytes = true then some (.sl (some h.length) inf.size ys, h ++ [.log e inf.size ys.length]) else none
        | .sl (some id) sz ds =>
          match h[id]? with
          | some (.log e' sz' n) => if e' = e ∧ sz' = inf.size ∧ sz = inf.size ∧ n = ds.length ∧ roomy (ds.length + ys.length) inf.bytes = true then some (.sl (some id) inf.size (ds ++ ys), h.set id (.log e inf.size (ds.length + ys.length))) else none
          | _ => none
        | _ => none
      else none
    | none => none
  | none => none
theorem append_log (s : Sim C h w) {id e n : Nat} {i : TypeInfo} {z : Value} {t tx ty : TypeId} (he : h[id]? = some (.log e i.size n)) (ht : P.underlying t = some (.slice e)) (hi : P.info? e = some i) (hz : i.zero = some z) (hzs : z.cells.size = i.size) (hsz : 0 < i.size)
    {u : Value} {ds ys : List D} (hu : C.lg id = some u) (hds : Rd C w (.sl (some id) i.size ds) u) (hdn : n = ds.length) {x : Value} {news : List Value} (hs : Src P i.size tx x ys.length news w) (hys : RdE C w i.size ys (fun j => news[j]?)) (hro : roomy (ds.length + ys.length) i.bytes = true) :
    ∃ v C' w', (Builtin.append_ #[t, tx] ty #[u, x]).run P w = .ok v w' ∧ Fw C w C' w' ∧ Sim C' (h.set id (.log e i.size (ds.length + ys.length))) w' ∧ Rd C' w' (.sl (some id) i.size (ds ++ ys)) v := by
  obtain ⟨r1, r2⟩ := roomy_some hro
  subst hdn
  obtain ⟨u', xs, hu', ho, hS0⟩ := s.log id e i.size _ he
  rw [hu] at hu'
  cases hu'
  by_cases hm : 0 < ys.length
  · have hds' : RdE C w i.size ds (fun j => xs[j]?) := by
      by_cases h0 : 0 < ds.length
      · obtain ⟨_, hd2, _⟩ := hds
        obtain ⟨b, off, cap, rfl, _, hr⟩ := hd2 h0
        have hc := ho.cells (g := b) rfl
        rcases ho.2 with ⟨h3, _⟩ | ⟨g, cap', cur, h3, _⟩
        · cases h3
        · simp at h3
          obtain ⟨⟨rfl, rfl⟩, rfl⟩ := h3
          refine hr.congr fun j hj => ?_
          have hlt : j < xs.length := by rw [ho.1]; exact hj
          have := hc j _ (List.getElem?_eq_getElem hlt)
          rw [Addr.add_mid] at this
          rw [this, List.getElem?_eq_getElem hlt]
      · have : ds = [] := List.eq_nil_of_length_eq_zero (by omega)
        subst this
        trivial
    obtain ⟨v, w', g, k1, k2, k3, k4, k5, k6, k7⟩ := run_append_src (P := P) t tx ty e i z ht hi hz hzs hsz ho hs hm r1 r2
    obtain ⟨C', f, s', hl, hS⟩ := s.log_turn he hu ho hS0 hm k2 k3 k4 k5 k6
    refine ⟨v, C', w', k1, f, s', ?_, fun _ => ?_, fun id' e' => ?_⟩
    · obtain ⟨a, cap, rfl, h1, h2⟩ := ownsRow_form k2
      exact ⟨a, cap, by rw [List.length_append], by rw [List.length_append]; exact h1, h2⟩
    · obtain ⟨a, cap, rfl, h1, h2⟩ := ownsRow_form k2
      have hform : ∃ c, Value.slice a (ds.length + ys.length) cap = .slice (some ⟨g, 0, none⟩) (ds.length + ys.length) c := by
        rcases k2.2 with ⟨h3, _⟩ | ⟨g', cap', cur, h3, _⟩
        · rw [h3] at k4; simp [Value.ownBlock] at k4
        · rw [h3] at k4
          simp [Value.ownBlock] at k4
          subst k4
          exact ⟨cap', h3⟩
      obtain ⟨c, hform⟩ := hform
      refine ⟨g, 0, c, by rw [List.length_append]; exact hform, fun j hj => ?_, ?_⟩
      · rw [Nat.zero_add]
        exact hS j (by rw [List.length_append] at hj; exact hj)
      · refine RdE.app (RdE.mono f.toEv i.size ds _ _ hds' fun _ _ => rfl) (RdE.mono f.toEv i.size ys _ _ hys fun _ _ => rfl) (fun j hj => ?_) (fun j hj => ?_)
        · simp only [Nat.zero_add]
          rw [k7 j (by rw [Nat.add_mul]; omega), List.getElem?_append_left (by rw [ho.1]; exact hj)]
        · simp only [Nat.zero_add]
          rw [k7 _ (by rw [Nat.add_mul]; omega), List.getElem?_append_right (by rw [ho.1]; omega), ho.1]
          congr 1
          omega
    · cases e'
      exact ⟨v, hl, by rw [ownsRow_len k2, List.length_append]; exact Nat.le_refl _, fun _ => rfl⟩
  · have hy : ys = [] := List.eq_nil_of_length_eq_zero (by omega)
    subst hy
    have hnews : news = [] := List.eq_nil_of_length_eq_zero (by have := hs.newsLen; simpa using this)
    subst hnews
    obtain ⟨a, cap, rfl, h1, h2⟩ := ownsRow_form ho
    have hset : h.set id (.log e i.size (ds.length + ([] : List D).length)) = h := by
      have hlt := (List.getElem?_eq_some_iff.1 he).1
      apply List.ext_getElem?
      intro j
      rw [List.getElem?_set]
      by_cases hj : id = j
      · subst hj
        simp [hlt]
        exact ((List.getElem?_eq_some_iff.1 he).2).symm
      · simp [hj]
    rw [hset, List.append_nil]
    exact ⟨_, C, w, run_append_nothing (P := P) w t tx ty e i ht hi a _ cap h1 x hs, Fw.refl _ _, s, hds⟩
theorem appendD_sound (s : Sim C h w) {t tx ty : TypeId} {sd x d : D} {sv xv : Value} {h' : H} (hsd : Rd C w sd sv) (hx : Rd C w x xv) (e : appendD P h t tx sd x = some (d, h')) :
    ∃ v C' w', (Builtin.append_ #[t, tx] ty #[sv, xv]).run P w = .ok v w' ∧ Fw C w C' w' ∧ Sim C' h' w' ∧ Rd C' w' d v := by
  unfold appendD at e
  split at e
  · rename_i el inf hel
    obtain ⟨h1, h2⟩ := elemP_some hel
    split at e
    · rename_i ys hsrc
      split at e
      · rename_i hc
        obtain ⟨hsz, hz'⟩ := hc
        rw [Option.map_eq_some_iff] at hz'
        obtain ⟨z, hz, hzs⟩ := hz'
        obtain ⟨news, k1, k2⟩ := srcD_sound hx hsrc
        split at e
        · split at e
          · rename_i hro
            cases e
            simp only [Rd] at hsd
            subst hsd
            obtain ⟨C1, f1, s1, hl⟩ := s.log_nil el inf.size
            obtain ⟨v, C', w', j1, j2, j3, j4⟩ := append_log (P := P) (tx := tx) (ty := ty) s1 (id := h.length) (n := 0) (i := inf) (by simp) h1 h2 hz hzs hsz hl (ds := []) (ys := ys) ⟨⟨none, 0, rfl, Nat.le_refl _, by unfold maxLen; omega⟩, fun h => absurd h (Nat.lt_irrefl _), fun id e => by cases e; exact ⟨_, hl, Nat.zero_le _, fun _ => rfl⟩⟩ rfl k1 (RdE.mono f1.toEv _ _ _ _ k2 fun _ _ => rfl) (by simpa using hro)
            refine ⟨v, C', w', j1, f1.trans j2, ?_, j4⟩
            simpa using j3
          · cases e
        · rename_i id sz ds
          split at e
          · rename_i e' sz' n hid
            split at e
            · rename_i hc2
              obtain ⟨rfl, rfl, rfl, rfl, hro⟩ := hc2
              cases e
              obtain ⟨u, xs, hu, ho, _⟩ := s.log id _ _ _ hid
              have hsd' := hsd
              obtain ⟨_, _, htag⟩ := hsd
              obtain ⟨u', hu', _, heq⟩ := htag id rfl
              rw [hu] at hu'
              cases hu'
              have hv := heq (ownsRow_len ho).symm
              subst hv
              exact append_log (P := P) s hid h1 h2 hz hzs hsz hu hsd' rfl k1 k2 hro
            · cases e
          · cases e
        · cases e
      · cases e
    · cases e
  · cases e
/-! ### slices, len -/
def boundD (x : Option D) (dflt : Nat) : Option Nat :=
  match x with
  | none => some dflt
  | some (.raw (.int _ n)) => if 0 ≤ n then some n.toNat else none
  | _ => none
def sliceD (P : Program) (t : TypeId) (x : D) (lo hi : Option D) : Option D :=
  match elemP P t, x with
  | some (_, inf), .sl _ sz ds =>
    match boundD lo 0, boundD hi ds.length with
    | some l, some k => if l ≤ k ∧ k ≤ ds.length ∧ inf.size = sz then some (.sl none sz ((ds.take k).drop l)) else none
    | _, _ => none
  | some (_, inf), .ms id off n =>
    match boundD lo 0, boundD hi n with
    | some l, some k => if l ≤ k ∧ k ≤ n then (if l = k then some (.sl none inf.size []) else some (.ms id (off + l * inf.size) (k - l))) else none
    | _, _ => none
  | _, _ => none
theorem boundD_sound {x : Option D} {dflt n : Nat} {xv : Option Value} (hx : match x, xv with | some d, some v => Rd C w d v | none, none => True | _, _ => False) (e : boundD x dflt = some n) :
    (xv = none ∧ n = dflt) ∨ ∃ k, xv = some (.int k n) := by
  unfold boundD at e
  split at e
  · cases e
    cases xv with
    | none => exact .inl ⟨rfl, rfl⟩
    | some v => exact hx.elim
  · rename_i k m
    split at e
    · rename_i h0
      cases e
      cases xv with
      | none => exact hx.elim
      | some v =>
        simp only [Rd] at hx
        subst hx
        exact .inr ⟨k, by rw [Int.toNat_of_nonneg h0]⟩
    · cases e
  · cases e
theorem sliceD_sound {t : TypeId} {x d : D} {xv : Value} {lo hi : Option D} {lov hiv : Option Value} (hx : Rd C w x xv) (hl : match lo, lov with | some d, some v => Rd C w d v | none, none => True | _, _ => False)
    (hh : match hi, hiv with | some d, some v => Rd C w d v | none, none => True | _, _ => False) (e : sliceD P t x lo hi = some d) : ∃ v, (Instr.sliceAt t xv lov hiv none).run P w = .ok v w ∧ Rd C w d v := by
  unfold sliceD at e
  split at e
  · rename_i _ _ el inf tag sz ds hel
    obtain ⟨h1, h2⟩ := elemP_some hel
    split at e
    · rename_i l k hbl hbk
      split at e
      · rename_i hc
        obtain ⟨hlk, hkd, hsz⟩ := hc
        cases e
        have hx0 := hx
        obtain ⟨⟨a, cap, rfl, hcap, hmax⟩, hx2, _⟩ := hx
        have hrun : (Instr.sliceAt t (.slice a ds.length cap) lov hiv none).run P w = .ok (.slice (if cap = l then a else a.map (·.add (l * sz))) (k - l) (cap - l)) w := by
          have kk : ∀ (i : Nat), k ≤ cap := fun _ => Nat.le_trans hkd hcap
          have kk' := kk 0
          rcases boundD_sound hl hbl with ⟨rfl, rfl⟩ | ⟨kl, rfl⟩ <;> rcases boundD_sound hh hbk with ⟨rfl, rfl⟩ | ⟨kh, rfl⟩ <;>
            simp [Instr.sliceAt, Instr.slice, run_underlying h1, Instr.sliceBounds, Instr.sliceBound, asIntOf, sizeOf, typeInfo, h2, hsz, hlk, hkd, kk']
        have hlen : ((ds.take k).drop l).length = k - l := by simp; omega
        refine ⟨_, hrun, ⟨_, _, by rw [hlen], by rw [hlen]; omega, by omega⟩, fun h0 => ?_, fun id e => by cases e⟩
        rw [hlen] at h0 ⊢
        obtain ⟨b, off, cap', hv, hs, hr⟩ := hx2 (by omega)
        simp at hv
        obtain ⟨rfl, rfl⟩ := hv
        have hne : ¬ cap = l := by omega
        refine ⟨b, off + l * sz, cap - l, by simp [hne, Addr.add_mid], fun i hi => ?_, RdE.mk fun i d hd => ?_⟩
        · rw [Nat.add_assoc]
          refine hs _ ?_
          have h3 : k * sz ≤ ds.length * sz := Nat.mul_le_mul_right _ hkd
          have h4 : l * sz + (k - l) * sz = k * sz := by rw [← Nat.add_mul]; congr 1; omega
          omega
        · have hik : i < k - l := by
            have := (List.getElem?_eq_some_iff.1 hd).1
            omega
          rw [List.getElem?_drop, List.getElem?_take_of_lt (by omega)] at hd
          obtain ⟨u, k1, k2, k3, k4⟩ := hr.get hd
          refine ⟨u, k1, k2, k3, fun j hj => ?_⟩
          rw [← k4 j hj]
          simp only [Nat.add_mul]
          congr 2
          omega
      · cases e
    · cases e
  · rename_i _ _ el inf id off n hel
    obtain ⟨h1, h2⟩ := elemP_some hel
    split at e
    · rename_i l k hbl hbk
      split at e
      · rename_i hc
        obtain ⟨hlk, hkd⟩ := hc
        obtain ⟨b, cap, hb, rfl, hcap, hmax⟩ := hx
        have hrun : (Instr.sliceAt t (.slice (some ⟨b, off, none⟩) n cap) lov hiv none).run P w = .ok (.slice (if cap = l then some ⟨b, off, none⟩ else some ⟨b, off + l * inf.size, none⟩) (k - l) (cap - l)) w := by
          have kk' : k ≤ cap := Nat.le_trans hkd hcap
          rcases boundD_sound hl hbl with ⟨rfl, rfl⟩ | ⟨kl, rfl⟩ <;> rcases boundD_sound hh hbk with ⟨rfl, rfl⟩ | ⟨kh, rfl⟩ <;>
            simp [Instr.sliceAt, Instr.slice, run_underlying h1, Instr.sliceBounds, Instr.sliceBound, asIntOf, sizeOf, typeInfo, h2, hlk, hkd, kk', Addr.add_mid]
        split at e
        · rename_i hlk'
          cases e
          exact ⟨_, hrun, ⟨_, _, by rw [hlk', Nat.sub_self]; rfl, Nat.zero_le _, by omega⟩, fun h0 => absurd h0 (Nat.lt_irrefl _), fun id e => by cases e⟩
        · cases e
          have hne : ¬ cap = l := by omega
          rw [if_neg hne] at hrun
          exact ⟨_, hrun, b, cap - l, hb, rfl, by omega, by omega⟩
      · cases e
    · cases e
  · cases e
def lenD (P : Program) (t : TypeId) (x : D) : Option D :=
  match P.underlying t, x with
  | some (.slice _), .sl _ _ ds => some (.raw (.int .i64 ds.length))
  | some (.slice _), .ms _ _ n => some (.raw (.int .i64 n))
  | some (.slice _), .sln n => some (.raw (.int .i64 n))
  | _, _ => none
theorem lenD_sound {t ty : TypeId} {x d : D} {xv : Value} (hx : Rd C w x xv) (e : lenD P t x = some d) : ∃ v, (Builtin.len_ #[t] ty #[xv]).run P w = .ok v w ∧ Rd C w d v := by
  unfold lenD at e
  split at e
  · rename_i _ el tag sz ds hu
    cases e
    obtain ⟨⟨a, cap, rfl, _⟩, _⟩ := hx
    refine ⟨_, ?_, rfl⟩
    simp [Builtin.len_, run_underlying hu, goInt]
  · rename_i _ el id off n hu
    cases e
    obtain ⟨b, cap, _, rfl, _⟩ := hx
    refine ⟨_, ?_, rfl⟩
    simp [Builtin.len_, run_underlying hu, goInt]
  · rename_i _ el n hu
    cases e
    obtain ⟨a, cap, rfl⟩ := hx
    refine ⟨_, ?_, rfl⟩
    simp [Builtin.len_, run_underlying hu, goInt]
  · cases e
/-! ### parts: field, extract -/
theorem part_sound {t : TypeId} {ds : List D} {off : Nat} {d : D} (e : partD P t ds off = some d) {vs : List Value} (r : RdL C w ds vs) : ∃ v, (part t vs.toArray off).run P w = .ok v w ∧ Rd C w d v := by
  unfold partD at e
  split at e
  · rename_i sz ha
    obtain ⟨ds', i, h1, h2, h3, h4⟩ := aggP_some ha
    split at e
    · rename_i hle
      cases e
      refine ⟨.agg ((vs.drop off).take sz).toArray, ?_, _, rfl, (r.drop off).take sz⟩
      unfold part
      rw [Sem.run_bind, run_isAgg h1 w, h3]
      simp [sizeOf, typeInfo, h2, h4]
    · cases e
  · rename_i sz ha
    obtain ⟨ds', i, h1, h2, h3, h4⟩ := aggP_some ha
    obtain ⟨v, hv, hr⟩ := r.get e
    refine ⟨v, ?_, hr⟩
    unfold part
    rw [Sem.run_bind, run_isAgg h1 w, h3]
    simp [hv]
  · cases e
def fieldD (P : Program) (s : TypeId) (x : D) (f : Nat) : Option D :=
  match P.underlying s, x with
  | some (.struct fs), .agg ds => match fs[f]? with
    | some fl => partD P fl.type ds fl.offset
    | none => none
  | _, _ => none
theorem fieldD_sound {st : TypeId} {f : Nat} {x d : D} {xv : Value} (hx : Rd C w x xv) (e : fieldD P st x f = some d) : ∃ v, (Instr.field st xv f).run P w = .ok v w ∧ Rd C w d v := by
  unfold fieldD at e
  split at e
  · rename_i fs ds hu
    split at e
    · rename_i fl hf
      obtain ⟨vs, rfl, r⟩ := hx
      obtain ⟨v, h1, h2⟩ := part_sound (P := P) e r
      refine ⟨v, ?_, h2⟩
      simp [Instr.field, run_underlying hu, hf, asAgg, h1]
    · cases e
  · cases e
def extractD (x : D) (i : Nat) : Option D :=
  match x with
  | .tup ds => ds[i]?
  | _ => none
theorem extractD_sound {i : Nat} {x d : D} {xv : Value} (hx : Rd C w x xv) (e : extractD x i = some d) : ∃ v, (Instr.extract xv i).run P w = .ok v w ∧ Rd C w d v := by
  unfold extractD at e
  split at e
  · obtain ⟨vs, rfl, r⟩ := hx
    obtain ⟨v, h1, h2⟩ := r.get e
    exact ⟨v, by simp [Instr.extract, h1], h2⟩
  · cases e
/-! ### build -/
def afill (place : Nat → Option (Nat × Nat)) (cells : List D) : List (Nat × D) → Option (List D)
  | [] => some cells
  | (i, d) :: rest =>
    match place i, cellsD d with
    | some (off, size), some es => if es.length = size ∧ off + es.length ≤ cells.length then afill place (splice cells off es) rest else none
    | _, _ => none
theorem fold_splice (off : Nat) : ∀ (l : List Value) (k : Nat) (cs : Array Value), off + k + l.length ≤ cs.size → ((l.zipIdx k).foldl (fun cs (c, j) => cs.setIfInBounds (off + j) c) cs).toList = cs.toList.take (off + k) ++ l ++ cs.toList.drop (off + k + l.length)
  | [], k, cs, _ => by simp
  | v :: rest, k, cs, hl => by
    simp only [List.zipIdx_cons, List.foldl_cons]
    rw [fold_splice off rest (k + 1) _ (by simp at hl ⊢; omega)]
    have := list_seg_step cs.toList (off + k) v rest (by simp at hl ⊢; omega)
    simp only [Array.toList_setIfInBounds, List.length_cons]
    simpa [Nat.add_assoc] using this
theorem afill_sound {place : Nat → Option (Nat × Nat)} : ∀ {parts : List (Nat × D)} {pv : List (Nat × Value)} {cells cs : List D} {cv : Array Value}, afill place cells parts = some cs → RdL C w cells cv.toList →
    (∀ j : Nat, (parts[j]?).map (fun p : Nat × D => p.1) = (pv[j]?).map (fun p : Nat × Value => p.1)) → (∀ (j : Nat) (p : Nat × D) (q : Nat × Value), parts[j]? = some p → pv[j]? = some q → Rd C w p.2 q.2) → ∃ cv', Instr.fill place cv pv = some cv' ∧ RdL C w cs cv'.toList ∧ ((cells.all leafD = true ∧ ∀ p ∈ parts, ∀ es, cellsD p.2 = some es → es.all leafD = true) → cs.all leafD = true)
  | [], pv, cells, cs, cv, e, r, h1, _ => by
    have hp : pv = [] := by
      cases pv with
      | nil => rfl
      | cons p _ => have := h1 0; simp at this
    subst hp
    simp only [afill, Option.some.injEq] at e
    subst e
    exact ⟨cv, rfl, r, fun h => h.1⟩
  | (i, d) :: rest, pv, cells, cs, cv, e, r, h1, h2 => by
    cases pv with
    | nil => have := h1 0; simp at this
    | cons q qs =>
      obtain ⟨i', v⟩ := q
      have hi : i = i' := by have := h1 0; simpa using this
      subst hi
      have hd : Rd C w d v := h2 0 _ _ rfl rfl
      simp only [afill] at e
      split at e
      · rename_i off size es hp hc
        split at e
        · rename_i hcond
          obtain ⟨rfl, hle⟩ := hcond
          have hr := hd.cells hc
          have hl := hr.len
          have hcl := r.len
          simp only [Array.length_toList] at hl hcl
          have hfold := fold_splice off v.cells.toList 0 cv (by simp; omega)
          have hz : (v.cells.zipIdx.foldl (fun cs (c, j) => cs.setIfInBounds (off + j) c) cv).toList = splice cv.toList off v.cells.toList := by
            rw [← Array.foldl_toList, Array.toList_zipIdx]
            rw [hfold, splice_toArray]
          obtain ⟨cv', k1, k2, k3⟩ := afill_sound (cv := v.cells.zipIdx.foldl (fun cs (c, j) => cs.setIfInBounds (off + j) c) cv) (pv := qs) e (by rw [hz]; exact r.splice hr off) (fun j => by simpa using h1 (j + 1)) (fun j p q hp hq => h2 (j + 1) p q (by simpa using hp) (by simpa using hq))
          refine ⟨cv', ?_, k2, fun hall => k3 ⟨?_, fun p hp => hall.2 p (List.mem_cons_of_mem _ hp)⟩⟩
          · simp only [Instr.fill, hp]
            rw [if_neg (by simp; omega)]
            exact k1
          · have h4 := hall.2 (i, d) (List.mem_cons_self ..) es hc
            have h5 := hall.1
            rw [List.all_eq_true] at h4 h5 ⊢
            intro x hx
            simp only [splice, List.mem_append] at hx
            rcases hx with (hx | hx) | hx
            · exact h5 x (List.mem_of_mem_take hx)
            · exact h4 x hx
            · exact h5 x (List.mem_of_mem_drop hx)
        · cases e
      · cases e
end
end Go.Proofs.Ytclhomkgphdagaa.Pv

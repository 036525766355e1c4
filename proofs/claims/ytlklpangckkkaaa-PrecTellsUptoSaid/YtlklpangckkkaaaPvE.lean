/- Drawn regions with a part of an answer that nobody waits for: it may be taken as soon as it is there. -/
import Derived.Test.YtlklpangckkkaaaPvV
/-! ## Part 24 -/
namespace Go.Proofs.Ytlklpangckkkaaa.Pv
open Go Go.RowKit
/-- The same operations, where those behind the head wait for e, too. -/
def addW (l : List Oper) (n e : Nat) : List Oper := l.mapIdx fun i o => if n ≤ i then { o with after := o.after.push ⟨e, .data⟩ } else o
theorem addW_get (l : List Oper) (n e i : Nat) : (addW l n e).toArray[i]? = (l.toArray[i]?).map fun o => if n ≤ i then { o with after := o.after.push ⟨e, .data⟩ } else o := by
  simp [addW, List.getElem?_mapIdx]
theorem addW_size (l : List Oper) (n e : Nat) : (addW l n e).toArray.size = l.toArray.size := by simp [addW]
section
variable {P : Program} {l : List Oper} {n e : Nat} {Q : Exit → Act → World → Prop}
theorem addW_dst (i : Nat) : ((addW l n e).toArray[i]?).bind (·.dst) = (l.toArray[i]?).bind (·.dst) := by
  rw [addW_get]
  cases l.toArray[i]? with
  | none => rfl
  | some o =>
    simp only [Option.map_some, Option.bind_some]
    split <;> rfl
theorem addW_yielded (ts : Array Value) : yielded (addW l n e).toArray ts = yielded l.toArray ts := by
  funext i
  unfold yielded
  rw [addW_dst]
theorem addW_op {i : Nat} {K : Act → World → Prop} {a : Act} {w : World} (h : wpOp P (addW l n e).toArray Q i K a w) : wpOp P l.toArray Q i K a w := by
  unfold wpOp at h ⊢
  rw [addW_get, addW_yielded] at h
  cases ho : l.toArray[i]? with
  | none => simpa [ho] using h
  | some o =>
    simp only [ho, Option.map_some] at h ⊢
    split at h
    · exact h
    · exact h
theorem addW_ready {i : Nat} {listed : Array Bool} : i ∈ Region.ready .any (addW l n e).toArray listed ↔ i ∈ Region.ready .any l.toArray listed ∧ (n ≤ i → listed.getD e false = true) := by
  rw [mem_ready, mem_ready, addW_get]
  cases ho : l.toArray[i]? with
  | none => simp
  | some o =>
    simp only [Option.map_some, Option.some.injEq, exists_eq_left']
    by_cases hn : n ≤ i
    · rw [if_pos hn]
      constructor
      · rintro ⟨h1, h2⟩
        exact ⟨⟨h1, fun ed hed hb => h2 ed (by simp [hed]) hb⟩, fun _ => h2 ⟨e, .data⟩ (by simp) rfl⟩
      · rintro ⟨⟨h1, h2⟩, h3⟩
        refine ⟨h1, fun ed hed hb => ?_⟩
        rcases Array.mem_push.1 hed with h | h
        · exact h2 ed h hb
        · subst h
          exact h3 hn
    · rw [if_neg hn]
      exact ⟨fun h => ⟨h, fun h' => absurd h' hn⟩, fun h => h.1⟩
end
/-- What is told of e: it takes a part of an answer, nobody looks at it, and what is behind the head waits for all that it waits for. -/
structure EagerP (l : List Oper) (n e : Nat) : Prop where
  lt : e < n
  noSel : Region.noSelect l.toArray = true
  op : ∃ o x k, l.toArray[e]? = some o ∧ o.op = .extract x k ∧ o.guard = none
  free : ∀ (o : Oper) j oj, l.toArray[e]? = some o → l.toArray[j]? = some oj → j ≠ e → (∀ ed ∈ o.after, Region.binds .any ed = true → ed.on ≠ j) → (∀ ed ∈ oj.after, Region.binds .any ed = true → ed.on ≠ e) → o.apart l.toArray oj = true
  wait : ∀ (o : Oper) t ed, l.toArray[e]? = some o → n ≤ t → t < l.toArray.size → ed ∈ o.after → Region.binds .any ed = true → ancB .any l.toArray l.toArray.size t ed.on = true
def eagerB (l : List Oper) (n e : Nat) : Bool :=
  decide (e < n) && (Region.noSelect l.toArray && (match l.toArray[e]? with
    | some o => (match o.op with | .extract _ _ => o.guard.isNone | _ => false) && (((List.range l.toArray.size).all fun j => j == e || (o.after.any (fun ed => Region.binds .any ed && ed.on == j)) || match l.toArray[j]? with
        | some oj => oj.after.any (fun ed => Region.binds .any ed && ed.on == e) || o.apart l.toArray oj
        | none => true) && ((List.range l.toArray.size).all fun t => decide (t < n) || o.after.all fun ed => !Region.binds .any ed || ancB .any l.toArray l.toArray.size t ed.on))
    | none => false))
theorem eagerB_spec {l : List Oper} {n e : Nat} (h : eagerB l n e = true) : EagerP l n e := by
  simp only [eagerB, Bool.and_eq_true, decide_eq_true_eq] at h
  obtain ⟨h1, h2, h3⟩ := h
  cases ho : l.toArray[e]? with
  | none => rw [ho] at h3; cases h3
  | some o =>
    rw [ho] at h3
    simp only [Bool.and_eq_true] at h3
    obtain ⟨h4, h5, h6⟩ := h3
    refine ⟨h1, h2, ?_, fun o' j oj e1 hj hne hnw hno => ?_, fun o' t ed e1 ht hts hed hb => ?_⟩
    · split at h4
      · rename_i x k hop
        exact ⟨o, x, k, ho, hop, by simpa using h4⟩
      · cases h4
    · have : o' = o := Option.some.inj (e1.symm.trans ho)
      subst this
      have h7 := List.all_eq_true.1 h5 j (List.mem_range.2 (Array.getElem?_eq_some_iff.1 hj).1)
      simp only [hj, Bool.or_eq_true, beq_iff_eq, hne, false_or] at h7
      rcases h7 with h7 | h7 | h7
      · obtain ⟨ed, hed, hb⟩ := Array.any_eq_true'.1 h7
        simp only [Bool.and_eq_true, beq_iff_eq] at hb
        exact absurd hb.2 (hnw ed hed hb.1)
      · obtain ⟨ed, hed, hb⟩ := Array.any_eq_true'.1 h7
        simp only [Bool.and_eq_true, beq_iff_eq] at hb
        exact absurd hb.2 (hno ed hed hb.1)
      · exact h7
    · have : o' = o := Option.some.inj (e1.symm.trans ho)
      subst this
      have h7 := List.all_eq_true.1 h6 t (List.mem_range.2 hts)
      simp only [Bool.or_eq_true, decide_eq_true_eq] at h7
      rcases h7 with h7 | h7
      · omega
      · have h8 := Array.all_eq_true'.1 h7 ed hed
        rw [hb] at h8
        simpa using h8
theorem extract_run {P : Program} (x : Value) (k : Nat) : (∃ v, ∀ w, (Instr.extract x k).run P w = .ok v w) ∨ ∃ q, ∀ w, (Instr.extract x k).run P w = .halt q w := by
  unfold Instr.extract
  cases x <;> first | exact .inr ⟨_, fun w => rfl⟩ | skip
  rename_i vs
  cases hv : vs[k]? with
  | some v => exact .inl ⟨v, fun w => by simp [hv]⟩
  | none => exact .inr ⟨_, fun w => by simp [hv]; rfl⟩
theorem addW_any {P : Program} {l : List Oper} {n e : Nat} {Q : Exit → Act → World → Prop} (hE : EagerP l n e) (hq1 : ∀ c a w, ¬ Q (.panic c) a w) (hq2 : ¬ LetsOut Q) : ∀ (fuel : Nat) (listed : Array Bool) (a : Act) (w : World), listed.size = l.toArray.size →
    (∀ j oj, l.toArray[j]? = some oj → listed.getD j false = true → ∀ ed ∈ oj.after, Region.binds .any ed = true → listed.getD ed.on false = true) →
    wpAny P .any (addW l n e).toArray Q fuel listed a w → wpAny P .any l.toArray Q fuel listed a w := by
  have key : ∀ (listed : Array Bool), listed.size = l.toArray.size → (∀ j oj, l.toArray[j]? = some oj → listed.getD j false = true → ∀ ed ∈ oj.after, Region.binds .any ed = true → listed.getD ed.on false = true) →
      ∀ t, t ∈ Region.ready .any l.toArray listed → t ∈ Region.ready .any (addW l n e).toArray listed ∨ e ∈ Region.ready .any l.toArray listed := fun listed hsz hcl t ht => by
    by_cases hn : n ≤ t
    · cases hle : listed.getD e false with
      | true => exact .inl (addW_ready.2 ⟨ht, fun _ => hle⟩)
      | false =>
        obtain ⟨o, x, k, ho, _, _⟩ := hE.op
        have hes : e < listed.size := by rw [hsz]; exact (Array.getElem?_eq_some_iff.1 ho).1
        refine .inr (mem_ready.2 ⟨getD_in hes hle, o, ho, fun ed hed hb => ?_⟩)
        obtain ⟨_, ot, hot, hall⟩ := mem_ready.1 ht
        have ha := hE.wait o t ed ho hn (Array.getElem?_eq_some_iff.1 hot).1 hed hb
        have inv : HeadInv .any l.toArray l.toArray.size listed := ⟨hsz, hcl, fun t h1 h2 => by omega⟩
        exact anc_listed inv _ _ _ (fun oj hoj e' he' hb' => by
          have : oj = ot := Option.some.inj (hoj.symm.trans hot)
          subst this
          exact hall e' he' hb') ha
    · exact .inl (addW_ready.2 ⟨ht, fun h => absurd h hn⟩)
  have sub : ∀ {listed : Array Bool} {t : Nat}, t ∈ Region.ready .any (addW l n e).toArray listed → t ∈ Region.ready .any l.toArray listed := fun h => (addW_ready.1 h).1
  have clos : ∀ {listed : Array Bool} {i : Nat}, (∀ j oj, l.toArray[j]? = some oj → listed.getD j false = true → ∀ ed ∈ oj.after, Region.binds .any ed = true → listed.getD ed.on false = true) → i ∈ Region.ready .any l.toArray listed →
      ∀ j oj, l.toArray[j]? = some oj → (listed.setIfInBounds i true).getD j false = true → ∀ ed ∈ oj.after, Region.binds .any ed = true → (listed.setIfInBounds i true).getD ed.on false = true := fun {listed i} hcl hi j oj hj hl ed hed hb => by
    obtain ⟨_, oi, hoi, hall⟩ := mem_ready.1 hi
    by_cases hij : i = j
    · subst hij
      have : oj = oi := Option.some.inj (hj.symm.trans hoi)
      subst this
      exact getD_set_true (hall ed hed hb)
    · rw [getD_set_ne false hij] at hl
      exact getD_set_true (hcl j oj hj hl ed hed hb)
  intro fuel
  induction fuel with
  | zero =>
    intro listed a w hsz hcl h
    refine ⟨?_, h.2⟩
    cases hr : Region.ready .any l.toArray listed with
    | nil => rfl
    | cons t r =>
      exfalso
      have ht : t ∈ Region.ready .any l.toArray listed := by rw [hr]; exact List.mem_cons_self ..
      rcases key listed hsz hcl t ht with h1 | h1
      · rw [h.1] at h1
        cases h1
      · have hlt := hE.lt
        have := (addW_ready (l := l) (n := n) (e := e)).2 ⟨h1, fun hh => absurd hh (by omega)⟩
        rw [h.1] at this
        cases this
  | succ fuel ih =>
    intro listed a w hsz hcl h
    by_cases hx : e ∈ Region.ready .any l.toArray listed
    · -- it is taken at once
      have hx' : e ∈ Region.ready .any (addW l n e).toArray listed := addW_ready.2 ⟨hx, fun hh => absurd hh (by have := hE.lt; omega)⟩
      obtain ⟨o, x, k, ho, hop, hg⟩ := hE.op
      have h1 := addW_op (h.2 e hx')
      have hw : ∀ ts, Region.wanted o (yielded l.toArray ts) = true := fun ts => by simp [Region.wanted, hg]
      unfold wpOp at h1
      simp only [ho] at h1
      rw [if_pos (hw _)] at h1
      rcases h1 with h1 | h1
      · unfold Oper.wp at h1
        rcases extract_run (P := P) (a.eval x) k with ⟨v, hv⟩ | ⟨q, hv⟩
        · have hrun : ∀ w, (execOp a.eval o).run P w = .ok (.value v) w := fun w => by
            simp only [execOp, hop, Sem.run_bind, hv]
            rfl
          rw [hrun w] at h1
          refine wpAny_first ho (Region.noSelect_spec hE.noSel) (fun c a w h => absurd h (hq1 _ _ _)) fuel listed a w (fun j oj hj hne hun hno => hE.free o j oj ho hj hne (fun ed hed hb e1 => by
            obtain ⟨_, o2, ho2, hall⟩ := mem_ready.1 hx
            have : o2 = o := Option.some.inj (ho2.symm.trans ho)
            subst this
            have h5 := hall ed hed hb
            rw [e1, getD_both hun] at h5
            cases h5) hno) hx (.inl ⟨hw _, hrun⟩) ?_
          exact ih _ _ _ (by simpa using hsz) (clos hcl hx) h1
        · have hrun : (execOp a.eval o).run P w = .halt q w := by
            simp only [execOp, hop, Sem.run_bind, hv]
            rfl
          rw [hrun] at h1
          cases q <;> simp only [Oper.upon] at h1 <;> first | exact absurd h1 (hq1 _ _ _) | exact h1.elim
      · exact absurd h1.2 hq2
    · have heq : ∀ t, t ∈ Region.ready .any l.toArray listed → t ∈ Region.ready .any (addW l n e).toArray listed := fun t ht => (key listed hsz hcl t ht).resolve_right hx
      refine ⟨fun h0 => h.1 ?_, fun i hi => ?_⟩
      · cases hr : Region.ready .any (addW l n e).toArray listed with
        | nil => rfl
        | cons t r =>
          have ht : t ∈ Region.ready .any (addW l n e).toArray listed := by rw [hr]; exact List.mem_cons_self ..
          have := sub ht
          rw [h0] at this
          cases this
      · exact wpOp_mono (fun a' w' h' => ih _ a' w' (by simpa using hsz) (clos hcl hi) h') (addW_op (h.2 i (heq i hi)))
/-- A tail in several orders, where operation e of the head need not be waited for. -/
theorem DrawK.eager {T : TP} {l : List Oper} {ts : List D} {h : H} {K : List D → H → Prop} (j e : Nat) (hm : (T ()).follows .mixedOrders = true) (hE : eagerB l (l.length - j) e = true) (hs : statT (addW l (l.length - j) e) (l.length - j) = true)
    (k : whrun T (addW l (l.length - j) e) (l.length - j) ts h (l.length - j) [] fun hs => StatK (addW l (l.length - j) e) (l.length - j) ts.length hs fun _ => TailK T (addW l (l.length - j) e) (l.length - j) (hfin (addW l (l.length - j) e) (l.length - j) hs (deadB (addW l (l.length - j) e) (l.length - j) hs) (l.length - j) ts h).1 (hfin (addW l (l.length - j) e) (l.length - j) hs (deadB (addW l (l.length - j) e) (l.length - j) hs) (l.length - j) ts h).2 K) : DrawK T l ts h K := by
  refine ⟨.inr (.inr (.inr fun id C w a Q s ta hk => ?_))⟩
  let Q' : Exit → Act → World → Prop := fun ex a w => match ex with | .normal => Q .normal a w | _ => False
  refine wp_mono (Q := Q') (wp_region_any hm ?_) fun ex a w h => ?_
  · obtain ⟨hs', k1, k2⟩ := whrun_ok k (by simp) (fun i hi => absurd hi (Nat.not_lt_zero _))
    obtain ⟨⟨h1, h2⟩, h3⟩ := k2.out
    simp only [statT, Bool.and_eq_true] at hs
    have main := adraw_anyW (Q := Q') k1 (headWB_spec hs.1.1) (by simp only [staticW, Bool.and_eq_true]; exact ⟨⟨h1, hs.1.2⟩, h2⟩) s ta fun a1 C1 w1 f1 s1 t1 => h3.out C1 w1 a1 Q' s1 t1 fun ts' h' a' C' w' k f' s' t' => hk ts' h' a' C' w' k (f1.trans f') s' t'
    rw [addW_size] at main
    exact addW_any (eagerB_spec hE) (fun c a w h => h) (fun ⟨a, w, h⟩ => h) _ _ _ _ (by simp) (fun j oj _ hl => by rw [getD_replicate_false] at hl; cases hl) main
  · cases ex <;> first | exact h | exact h.elim
/-- A tail in one order. -/
theorem TailK.seq {T : TP} {l : List Oper} {n : Nat} {ts : List D} {h : H} {K : List D → H → Prop} (hn : Nat.ble n l.length = true) (hb : Region.seqB .any l.toArray (l.length - n) n (doneA n (l.length - n)) = true) (k : wlist T l.toArray (l.drop n) ts h K) : TailK T l n ts h K := by
  refine ⟨fun C w a Q s ta hk => ?_⟩
  have := wpAny_of_seq (md := .any) (Q' := Q) (ops := l.toArray) (P := T ()) (l.drop n) n (doneA n (l.length - n)) a w (fun j => by rw [List.getElem?_drop]; simp) (by simpa using hb) (wlist_sound k s ta hk)
  simpa using this
end Go.Proofs.Ytlklpangckkkaaa.Pv

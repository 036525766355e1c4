/- A drawn region that turns boxes, rows and what it calls: what it turns is ordered against all else that looks at memory; all other operations may come whenever they like. -/
import Derived.Test.YtbfmaicoefefaaaPvR
set_option linter.unusedSimpArgs false
set_option linter.unusedVariables false
namespace Go.Proofs.Ytbfmaicoefefaaa.Pv
open Go Go.RowKit
section
variable {P : Program}
def isTurn (o : Oper) : Bool := match o.op with
  | .store .. | .alloc .. | .box .. | .buildSlice .. | .makeSlice .. => true
  | .call c => match c.callee with
    | .builtin .append => true
    | .builtin _ => false
    | _ => true
  | _ => false
def ordT (l : List Oper) (n : Nat) : Bool :=
  let L := ancL l n n
  (List.range n).all fun j => match l[j]? with
    | some oj => !isTurn oj || (List.range n).all fun i => match l[i]? with
      | some oi => decide (i = j) || !(isTurn oi || isLoad oi) || (if i < j then (L.getD j []).contains i else (L.getD i []).contains j)
      | none => true
    | none => true
/-- What an operation that turns memory does: what it yields, and the boxes behind it. -/
structure TurnsP (P : Program) (ρ : Operand → D) (o : Oper) (h : H) (d : D) (h' : H) : Prop where
  out : ∀ (C : Cx) (w : World) (a : Act), Sim C h w → Reads C w ρ a.eval → ∀ (R : Act → World → Prop) (Q : Exit → Act → World → Prop), (∀ v C' w', Fw C w C' w' → Sim C' h' w' → Rd C' w' d v → R (a.put o.dst v) w') → o.wp P a w R Q
def TStep (P : Program) (l : List Oper) (n : Nat) (ts vs : List D) (h : H) (o : Oper) (d : D) (h' : H) : Prop :=
  (lwanted l vs o = some true ∧ isTurn o = true ∧ TurnsP P (lval l n ts vs o) o h d h') ∨ (lwanted l vs o = some true ∧ isTurn o = false ∧ sop P (lval l n ts vs o) o h = some d ∧ h' = h) ∨ (lwanted l vs o = some false ∧ d = .raw undef ∧ h' = h)
structure TRun (P : Program) (l : List Oper) (n : Nat) (ts : List D) (h : H) (vs : List D) (hst : List H) : Prop where
  len : vs.length = n
  len2 : hst.length = n + 1
  zero : hst.getD 0 [] = h
  spec : ∀ i, i < n → ∃ o d, l[i]? = some o ∧ vs[i]? = some d ∧ TStep P l n ts (vs.take i) (hst.getD i []) o d (hst.getD (i + 1) [])
structure LInvT (C : Cx) (W : World) (l : List Oper) (n : Nat) (vs : List D) (hst : List H) (a0 : Act) (listed : Array Bool) (a : Act) (w : World) (Cx' : Cx) : Prop where
  fw : Fw C W Cx' w
  defers : a.defers = a0.defers
  size : a.tmps.size = a0.tmps.size
  at_ : ∃ p, p ≤ n ∧ (∀ j o, j < n → l[j]? = some o → isTurn o = true → (listed.getD j false = true ↔ j < p)) ∧ Sim Cx' (hst.getD p []) w
  other : ∀ t, (∀ i, i < n → dstAt l i ≠ some t) → a.tmps[t]? = a0.tmps[t]?
  val : ∀ k t, k < n → listed.getD k false = true → dstAt l k = some t → ∃ v, a.tmps[t]? = some v ∧ Rd Cx' w (vs.getD k .any) v
theorem hst_sameT {l : List Oper} {n : Nat} {ts : List D} {vs : List D} {hst : List H} (hspec : ∀ i, i < n → ∃ o d, l[i]? = some o ∧ vs[i]? = some d ∧ TStep P l n ts (vs.take i) (hst.getD i []) o d (hst.getD (i + 1) [])) {p : Nat} : ∀ {q : Nat}, p ≤ q → q ≤ n → (∀ j o, p ≤ j → j < q → l[j]? = some o → isTurn o = false) → hst.getD q [] = hst.getD p []
  | 0, hpq, _, _ => by
    have : p = 0 := by omega
    rw [this]
  | q + 1, hpq, hq, hno => by
    by_cases e : p = q + 1
    · rw [e]
    · obtain ⟨o, d, h1, h2, h3⟩ := hspec q (by omega)
      have hs := hno q o (by omega) (by omega) h1
      have : hst.getD (q + 1) [] = hst.getD q [] := by
        rcases h3 with ⟨_, h3, _⟩ | ⟨_, _, _, h3⟩ | ⟨_, _, h3⟩
        · rw [hs] at h3
          cases h3
        · exact h3
        · exact h3
      rw [this]
      exact hst_sameT hspec (by omega) (by omega) fun j o h1 h2 h3 => hno j o h1 (by omega) h3
theorem aturn_core (hm : P.follows .mixedOrders = true) {l : List Oper} {n : Nat} {ts : List D} {h : H} {vs : List D} {hst : List H} (hr : TRun P l n ts h vs hst) (hst4 : headB .any l.toArray n = true ∧ dstsB l.toArray n ts.length = true ∧ waitsB l n = true ∧ ordT l n = true)
    (id : Nat) {C : Cx} {w : World} {a0 : Act} {Q : Exit → Act → World → Prop} (s : Sim C h w) (ta : TA C w ts a0)
    (hk : ∀ a' C' w', Fw C w C' w' → Sim C' (hst.getD n []) w' → TA C' w' (lputs l vs n ts) a' → wpList P l.toArray Q (l.drop n) a' w') : (Code.region id l.toArray true).wp P Q a0 w := by
  obtain ⟨hB, hd, hw, hord⟩ := hst4
  obtain ⟨hlen, hlen2, hz, hspec⟩ := hr
  obtain ⟨s1, f1⟩ := s.drew
  have ta1 := ta.mono f1.toEv
  have hnsz : n ≤ l.toArray.size := by
    simp only [headB, Bool.and_eq_true, decide_eq_true_eq] at hB
    exact hB.1.1.2
  have hsz : ts.length ≤ a0.tmps.size := by have := ta.rd.len; simp at this; omega
  have hdst : ∀ k k' t, k < n → k' < n → dstAt l k = some t → dstAt l k' = some t → k = k' := fun k k' t hkn hkn' e1 e2 => by
    by_cases hkk : k = k'
    · exact hkk
    · exact absurd ((getElem?_bind_toArray l k').trans e2) (dstsB_ne hd hkn hkn' hkk ((getElem?_bind_toArray l k).trans e1))
  have hdlt : ∀ k t, k < n → dstAt l k = some t → t < ts.length := fun k t hkn e1 => dstsB_lt hd hkn ((getElem?_bind_toArray l k).trans e1)
  refine wp_region_any hm ?_
  have H := wpAny_inv (P := P) (md := .any) (ops := l.toArray) (n := n) (Q := Q) (Inv := fun listed a x => ∃ Cx', LInvT C w.drew l n vs hst a0 listed a x Cx') hB ?_ ?_ n (Array.replicate l.toArray.size false) a0 w.drew
    ⟨by simp, fun j oj _ hl => (by rw [getD_replicate_false] at hl; cases hl), fun t _ ht => getD_in (by simpa using ht) (getD_replicate_false _ _)⟩ ?_
    ⟨C, Fw.refl _ _, rfl, rfl, ⟨0, Nat.zero_le _, fun j o _ _ _ => ⟨fun hl => (by rw [getD_replicate_false] at hl; cases hl), fun h0 => absurd h0 (Nat.not_lt_zero _)⟩, by rw [hz]; exact s1⟩, fun _ _ => rfl, fun k t _ hl => (by rw [getD_replicate_false] at hl; cases hl)⟩
  · rw [show n + (l.toArray.size - n) = l.toArray.size by omega] at H
    exact H
  · -- one operation
    rintro listed a x i inv hrd hi ⟨Cy, I⟩
    obtain ⟨hun, o, ho, hall⟩ := mem_ready.1 hrd
    have hoi : l[i]? = some o := by simpa using ho
    have hunf : listed.getD i false = false := getD_both hun
    have hisz : i < listed.size := by
      rw [inv.size]
      omega
    have hlw : ∀ k, waits l.toArray i k = true → listed.getD k false = true := fun k hwk => by
      obtain ⟨oj, hoj, e', he', hbd, hon⟩ := Region.waitsFor_spec hwk
      have : oj = o := Option.some.inj (hoj.symm.trans ho)
      subst this
      have := hall e' he' hbd
      rwa [hon] at this
    have hclo : ∀ j k, waits l.toArray j k = true → listed.getD j false = true → listed.getD k false = true := fun j k hwk hl => by
      obtain ⟨oj, hoj, e', he', hbd, hon⟩ := Region.waitsFor_spec hwk
      have := inv.closed j oj hoj hl e' he' hbd
      rwa [hon] at this
    obtain ⟨hal, hanc⟩ := ancL_spec (n := n) hclo n
    obtain ⟨o', d, e1, hvd, hst3⟩ := hspec i hi
    rw [hoi] at e1
    cases e1
    have hvg : vs.getD i .any = d := by simp [List.getD, hvd]
    obtain ⟨p, hpn, hpw, sp⟩ := I.at_
    have hwi := List.all_eq_true.1 hw i (List.mem_range.2 hi)
    rw [hoi] at hwi
    simp only [Bool.and_eq_true] at hwi
    have ordS : ∀ j oj, j < n → l[j]? = some oj → isTurn oj = true → i ≠ j → (isTurn o = true ∨ isLoad o = true) → (if i < j then ((ancL l n n).getD j []).contains i else ((ancL l n n).getD i []).contains j) = true := fun j oj hj hoj hs hne hm => by
      have h1 := List.all_eq_true.1 hord j (List.mem_range.2 hj)
      rw [hoj] at h1
      simp only [hs, Bool.not_true, Bool.false_or] at h1
      have h2 := List.all_eq_true.1 h1 i (List.mem_range.2 hi)
      rw [hoi] at h2
      simp only [Bool.or_eq_true, decide_eq_true_eq, Bool.not_eq_true'] at h2
      rcases h2 with (h2 | h2) | h2
      · exact absurd h2 hne
      · rcases hm with hm | hm <;> simp [hm] at h2
      · exact h2
    -- where we stand
    have here : (isTurn o = true ∨ isLoad o = true) → hst.getD p [] = hst.getD i [] := fun hmem => by
      rcases Nat.le_total p i with hpi | hip
      · refine (hst_sameT hspec hpi (by omega) fun j oj h1 h2 h3 => ?_).symm
        cases hs : isTurn oj with
        | false => rfl
        | true =>
          have h4 := ordS j oj (by omega) h3 hs (by omega) hmem
          rw [if_neg (by omega)] at h4
          have h5 := hanc i hi j (by simpa using h4) hlw
          have := (hpw j oj (by omega) h3 hs).1 h5
          omega
      · refine hst_sameT hspec hip hpn fun j oj h1 h2 h3 => ?_
        cases hs : isTurn oj with
        | false => rfl
        | true =>
          have h5 := (hpw j oj (by omega) h3 hs).2 h2
          by_cases hij : i = j
          · subst hij
            rw [hunf] at h5
            cases h5
          · have h4 := ordS j oj (by omega) h3 hs hij hmem
            rw [if_pos (by omega)] at h4
            have h6 := hanc j (by omega) i (by simpa using h4) fun q hq => hclo j q hq h5
            rw [hunf] at h6
            cases h6
    have hread : Reads Cy x (lval l n ts (vs.take i) o) a.eval := fun y => by
      cases y with
      | tmp t =>
        simp only [lval]
        cases hix : dstIx l t n with
        | none =>
          have h1 : a.tmps[t]? = a0.tmps[t]? := I.other t (dstIx_none hix)
          have h2 := (ta1.mono I.fw.toEv).reads (.tmp t)
          have h3 : a.eval (.tmp t) = a0.eval (.tmp t) := by simp [Act.eval, h1]
          rw [h3]
          exact h2
        | some k =>
          obtain ⟨hkn, hkd⟩ := dstIx_some hix
          simp only
          split
          · rename_i hdep
            have hmem : k ∈ depsOf l n o := by simpa using hdep
            have hwk : waits l.toArray i k = true := (List.all_eq_true.1 hwi.1) k hmem
            obtain ⟨v, hv1, hv2⟩ := I.val k t hkn (hlw k hwk) hkd
            have hval1 : a.eval (.tmp t) = v := by simp [Act.eval, hv1]
            rw [hval1]
            by_cases hki : k < i
            · have e2 : (vs.take i).getD k .any = vs.getD k .any := by simp [List.getD, List.getElem?_take_of_lt hki]
              rw [e2]
              exact hv2
            · have e2 : (vs.take i).getD k .any = .any := by
                simp only [List.getD]
                rw [List.getElem?_eq_none (by rw [List.length_take]; omega)]
                rfl
              rw [e2]
              trivial
          · trivial
      | const v => exact (rfl : v = v)
      | global g => exact (rfl : (Value.pointer (some ⟨g, 0, none⟩)) = _)
      | func f => exact (rfl : (Value.func (.func f) #[] #[]) = _)
    have hwant : ∀ b, lwanted l (vs.take i) o = some b → Region.wanted o (yielded l.toArray a.tmps) = b := fun b e => by
      unfold lwanted at e
      unfold Region.wanted
      split at e
      · rename_i hg
        cases e
        simp [hg]
      · rename_i j want hg
        rw [hg] at hwi
        simp only [Bool.and_eq_true, decide_eq_true_eq] at hwi
        obtain ⟨hjn, hjw⟩ := hwi.2
        simp only [hg]
        have key : ∀ t u, dstAt l j = some t → (vs.take i)[j]? = some (.raw u) → a.tmps[t]? = some u := fun t u h1 h2 => by
          obtain ⟨v, hv1, hv2⟩ := I.val j t hjn (hlw j hjw) h1
          have h4 : vs.getD j .any = .raw u := by
            have hlt := (List.getElem?_eq_some_iff.1 h2).1
            rw [List.length_take] at hlt
            rw [List.getElem?_take_of_lt (by omega)] at h2
            simp [List.getD, h2]
          rw [h4] at hv2
          simp only [Rd] at hv2
          rw [hv1, hv2]
        split at e
        · rename_i t b' h1 h2
          cases e
          unfold yielded
          rw [getElem?_bind_toArray, h1]
          simp only [Option.bind_some, key _ _ h1 h2]
          cases b' <;> cases want <;> rfl
        · rename_i t u h1 h2
          cases e
          unfold yielded
          rw [getElem?_bind_toArray, h1]
          simp only [Option.bind_some, key _ _ h1 h2]
          rfl
        · cases e
    -- what the invariant comes to
    have next : ∀ (v : Value) (x' : World) (C' : Cx), Fw Cy x C' x' → Rd C' x' d v → (∃ p, p ≤ n ∧ (∀ j oj, j < n → l[j]? = some oj → isTurn oj = true → ((listed.setIfInBounds i true).getD j false = true ↔ j < p)) ∧ Sim C' (hst.getD p []) x') → ∃ Cx', LInvT C w.drew l n vs hst a0 (listed.setIfInBounds i true) (a.put o.dst v) x' Cx' := fun v x' C' f r hp => by
      have hdo : dstAt l i = o.dst := by simp [dstAt, hoi]
      refine ⟨C', I.fw.trans f, (by rw [← I.defers]; exact put_defers _ _ _), (put_size _ _ _).trans I.size, hp, fun t ht => (put_other _ _ (by rw [← hdo]; exact ht i hi)).trans (I.other t ht), fun k t hkn hl hkd => ?_⟩
      by_cases hki : k = i
      · subst hki
        rw [hdo] at hkd
        rw [hvg]
        refine ⟨v, ?_, r⟩
        rw [hkd]
        exact put_same _ _ (by rw [I.size]; exact Nat.lt_of_lt_of_le (hdlt k t hi (hdo.trans hkd)) hsz)
      · rw [getD_set_ne false (fun e' => hki e'.symm)] at hl
        obtain ⟨u, hu1, hu2⟩ := I.val k t hkn hl hkd
        refine ⟨u, ?_, hu2.mono f.toEv⟩
        rw [put_other _ _ fun e' => hki (hdst k i t hkn hi hkd (hdo.trans e'))]
        exact hu1
    have setd : (listed.setIfInBounds i true).getD i false = true := by simp [hisz]
    have stay : isTurn o = false → ∃ p, p ≤ n ∧ (∀ j oj, j < n → l[j]? = some oj → isTurn oj = true → ((listed.setIfInBounds i true).getD j false = true ↔ j < p)) ∧ Sim Cy (hst.getD p []) x := fun hns => by
      refine ⟨p, hpn, fun j oj hj hoj hs => ?_, sp⟩
      have hji : j ≠ i := fun e' => by
        subst e'
        rw [hoi] at hoj
        cases hoj
        rw [hs] at hns
        cases hns
      rw [getD_set_ne false (fun e' => hji e'.symm)]
      exact hpw j oj hj hoj hs
    have goes : isTurn o = true → ∀ C' x', Sim C' (hst.getD (i + 1) []) x' → ∃ p, p ≤ n ∧ (∀ j oj, j < n → l[j]? = some oj → isTurn oj = true → ((listed.setIfInBounds i true).getD j false = true ↔ j < p)) ∧ Sim C' (hst.getD p []) x' := fun his C' x' sx => by
      have hpi : p ≤ i := by
        have := hpw i o hi hoi his
        rcases Nat.lt_or_ge i p with h1 | h1
        · have := this.2 h1
          rw [hunf] at this
          cases this
        · exact h1
      refine ⟨i + 1, by omega, fun j oj hj hoj hs => ?_, sx⟩
      by_cases hji : j = i
      · subst hji
        exact ⟨fun _ => Nat.lt_succ_self _, fun _ => setd⟩
      · rw [getD_set_ne false (fun e' => hji e'.symm), hpw j oj hj hoj hs]
        refine ⟨fun h1 => by omega, fun h1 => ?_⟩
        have h4 := ordS j oj hj hoj hs (fun e' => hji e'.symm) (.inl his)
        rw [if_neg (by omega)] at h4
        have h5 := hanc i hi j (by simpa using h4) hlw
        exact (hpw j oj hj hoj hs).1 h5
    unfold wpOp
    simp only [ho]
    rcases hst3 with ⟨hwt, his, htp⟩ | ⟨hwt, hns, hsop, _⟩ | ⟨hwt, hd0, hh2⟩
    · rw [hwant _ hwt, if_pos rfl]
      rw [← here (.inl his)] at htp
      exact .inl (htp.out Cy x a sp hread _ _ fun v C' x' f s' r => next v x' C' f r (goes his C' x' s'))
    · rw [hwant _ hwt, if_pos rfl]
      have hsop' : sop P (lval l n ts (vs.take i) o) o (hst.getD p []) = some d := by
        cases hld : isLoad o with
        | true => rw [here (.inr hld)]; exact hsop
        | false => rw [sop_still hld]; exact hsop
      obtain ⟨v, k1, k2⟩ := sop_sound sp hread hsop'
      exact .inl (wp_of_value k1 (next v x Cy (Fw.refl _ _) k2 (stay hns)))
    · rw [hwant _ hwt, if_neg (by simp)]
      subst hd0
      refine next undef x Cy (Fw.refl _ _) rfl ?_
      cases hso : isTurn o with
      | false => exact stay hso
      | true => exact goes hso Cy x (by rw [hh2, ← here (.inl hso)]; exact sp)
  · -- the tail
    rintro a x ⟨Cy, I⟩
    have hall : ∀ i, i < n → (doneA n (l.toArray.size - n)).getD i false = true := fun i hi => by
      unfold doneA
      simp [List.getElem?_append_left, hi]
    obtain ⟨p, hpn, hpw, sp⟩ := I.at_
    have hend : hst.getD n [] = hst.getD p [] := hst_sameT hspec hpn (Nat.le_refl _) fun j oj h1 h2 h3 => by
      cases hs : isTurn oj with
      | false => rfl
      | true =>
        have := (hpw j oj h2 h3 hs).1 (hall j h2)
        omega
    have tfin : ∀ i, i ≤ n → RdL Cy x (lputs l vs i ts) ((putV l.toArray (fun k => match dstAt l k with | some t => a.tmps.getD t undef | none => undef) a0 i).tmps.toList) := by
      intro i
      induction i with
      | zero => intro _; exact (ta1.mono I.fw.toEv).rd
      | succ i ih0 =>
        intro hi
        have ih := ih0 (by omega)
        simp only [lputs, putV]
        have e0 : (l.toArray[i]?).bind (·.dst) = dstAt l i := getElem?_bind_toArray l i
        rw [e0]
        cases hdi : dstAt l i with
        | none => exact ih
        | some t =>
          obtain ⟨v, hv1, hv2⟩ := I.val i t (by omega) (hall i (by omega)) hdi
          have : a.tmps.getD t undef = v := by simp [hv1]
          simp only [putD, Act.put, this]
          simpa using RdL.set hv2 ih t
    have ea : a = putV l.toArray (fun k => match dstAt l k with | some t => a.tmps.getD t undef | none => undef) a0 n := by
      refine Fr.done (ops := l.toArray) (n := n) (m := ts.length) (listed := doneA n (l.toArray.size - n)) ⟨I.size, I.defers, fun t ht => I.other t fun i hi e' => ht i hi ((getElem?_bind_toArray l i).trans e'), fun i t hi hl ht => ?_⟩ hd hsz hall
      have ht' := (getElem?_bind_toArray l i).symm.trans ht
      obtain ⟨v, hv1, hv2⟩ := I.val i t hi (hall i hi) ht'
      simp [ht', hv1]
    have tan : TA Cy x (lputs l vs n ts) a := ⟨by rw [ea]; exact tfin n (Nat.le_refl _), I.defers.trans ta.defers⟩
    have hlist := hk _ _ _ (f1.trans I.fw) (by rw [hend]; exact sp) tan
    simpa using hlist
  · unfold leftH
    have : ((List.range n).filter fun i => !(Array.replicate l.toArray.size false).getD i true) = List.range n := List.filter_eq_self.2 fun i hi => by
      have := List.mem_range.1 hi
      have : i < l.length := by simp at hnsz; omega
      simp [this]
    rw [this, List.length_range]
end
end Go.Proofs.Ytbfmaicoefefaaa.Pv
/-! ## Part 22 -/
namespace Go.Proofs.Ytbfmaicoefefaaa.Pv
open Go Go.RowKit
def noCall : FuncId → List D → H → Option (D × H) := fun _ _ _ => none
theorem noCall_ok {P : Program} : CallOk P noCall := ⟨fun _ _ _ _ _ e => (by cases e), fun _ _ _ _ _ e => (by cases e)⟩
section
variable {P : Program}
def hasA (l : List Oper) (n i0 j : Nat) : Bool := ((ancL l n n).getD j []).contains i0
def ordA (l : List Oper) (n i0 : Nat) (free : List Nat) : Bool :=
  let L := ancL l n n
  (List.range n).all fun j => match l[j]? with
    | some oj => decide (j = i0) || !isTurn oj || (List.range n).all fun i => match l[i]? with
      | some oi => decide (i = j) || decide (i = i0) || !(isTurn oi || (isLoad oi && !free.contains i)) || (if i < j then (L.getD j []).contains i else (L.getD i []).contains j)
      | none => true
    | none => true
/-- A line with one new box (the operation i0) that may come at any time: what stands with it (hst), and without it (hst0). -/
structure ARun (P : Program) (l : List Oper) (n : Nat) (ts : List D) (h : H) (vs : List D) (hst hst0 : List H) (i0 : Nat) (free : List Nat) : Prop where
  len : vs.length = n
  len2 : hst.length = n + 1
  len3 : hst0.length = n + 1
  zero : hst0.getD 0 [] = h
  al : i0 < n ∧ ∃ o t zs, l[i0]? = some o ∧ o.op = .alloc t ∧ o.guard = none ∧ zeroD P t = some zs ∧ vs[i0]? = some (.bx h.length 0) ∧ ∀ p, p ≤ n → (∀ j o, j < p → l[j]? = some o → isTurn o = true → j ≠ i0 → hasA l n i0 j = false) → hst.getD p [] = hst0.getD p [] ++ [.box t zs] ∧ (hst0.getD p []).length = h.length
  still : ∀ i o, i < n → l[i]? = some o → (isTurn o = false ∨ i = i0) → hst.getD (i + 1) [] = hst.getD i [] ∧ hst0.getD (i + 1) [] = hst0.getD i []
  spec : ∀ i, i < n → i ≠ i0 → ∃ o d, l[i]? = some o ∧ vs[i]? = some d ∧ TStep P l n ts (vs.take i) (hst.getD i []) o d (hst.getD (i + 1) []) ∧ (hasA l n i0 i = false → TStep P l n ts (vs.take i) (hst0.getD i []) o d (hst0.getD (i + 1) []))
  fr : ∀ i, i < n → free.contains i = true → ∀ p, p ≤ n → ∃ o d, l[i]? = some o ∧ vs[i]? = some d ∧ sop P (lval l n ts (vs.take i) o) o (hst.getD p []) = some d ∧ sop P (lval l n ts (vs.take i) o) o (hst0.getD p []) = some d
def pickH (b : Bool) (hst hst0 : List H) : List H := if b = true then hst else hst0
structure LInvA (C : Cx) (W : World) (l : List Oper) (n : Nat) (vs : List D) (hst hst0 : List H) (i0 : Nat) (a0 : Act) (listed : Array Bool) (a : Act) (w : World) (Cx' : Cx) : Prop where
  fw : Fw C W Cx' w
  defers : a.defers = a0.defers
  size : a.tmps.size = a0.tmps.size
  at_ : ∃ p, p ≤ n ∧ (∀ j o, j < n → l[j]? = some o → isTurn o = true → j ≠ i0 → (listed.getD j false = true ↔ j < p)) ∧ Sim Cx' ((pickH (listed.getD i0 false) hst hst0).getD p []) w
  other : ∀ t, (∀ i, i < n → dstAt l i ≠ some t) → a.tmps[t]? = a0.tmps[t]?
  val : ∀ k t, k < n → listed.getD k false = true → dstAt l k = some t → ∃ v, a.tmps[t]? = some v ∧ Rd Cx' w (vs.getD k .any) v
theorem hst_sameA {l : List Oper} {n i0 : Nat} {hst : List H} (hstill : ∀ i o, i < n → l[i]? = some o → (isTurn o = false ∨ i = i0) → hst.getD (i + 1) [] = hst.getD i []) (hin : ∀ i, i < n → ∃ o, l[i]? = some o) {p : Nat} : ∀ {q : Nat}, p ≤ q → q ≤ n → (∀ j o, p ≤ j → j < q → l[j]? = some o → isTurn o = false ∨ j = i0) → hst.getD q [] = hst.getD p []
  | 0, hpq, _, _ => by
    have : p = 0 := by omega
    rw [this]
  | q + 1, hpq, hq, hno => by
    by_cases e : p = q + 1
    · rw [e]
    · obtain ⟨o, ho⟩ := hin q (by omega)
      rw [hstill q o (by omega) ho (hno q o (by omega) (by omega) ho)]
      exact hst_sameA hstill hin (by omega) (by omega) fun j o h1 h2 h3 => hno j o h1 (by omega) h3
theorem aturnA_core (hm : P.follows .mixedOrders = true) {l : List Oper} {n : Nat} {ts : List D} {h : H} {vs : List D} {hst hst0 : List H} {i0 : Nat} {free : List Nat} (hr : ARun P l n ts h vs hst hst0 i0 free) (hst4 : headB .any l.toArray n = true ∧ dstsB l.toArray n ts.length = true ∧ waitsB l n = true ∧ ordA l n i0 free = true)
    (id : Nat) {C : Cx} {w : World} {a0 : Act} {Q : Exit → Act → World → Prop} (s : Sim C h w) (ta : TA C w ts a0)
    (hk : ∀ a' C' w', Fw C w C' w' → Sim C' (hst.getD n []) w' → TA C' w' (lputs l vs n ts) a' → wpList P l.toArray Q (l.drop n) a' w') : (Code.region id l.toArray true).wp P Q a0 w := by
  obtain ⟨hB, hd, hw, hord⟩ := hst4
  obtain ⟨hlen, hlen2, hlen3, hz, ⟨hi0, oA, tA, zA, hoA, hopA, hgA, hzA, hvA, hbox⟩, hstill, hspec, hfr⟩ := hr
  have hin : ∀ i, i < n → ∃ o, l[i]? = some o := fun i hi => by
    by_cases e : i = i0
    · exact ⟨oA, e ▸ hoA⟩
    · obtain ⟨o, _, h1, _⟩ := hspec i hi e
      exact ⟨o, h1⟩
  obtain ⟨s1, f1⟩ := s.drew
  have ta1 := ta.mono f1.toEv
  have hnsz : n ≤ l.toArray.size := by
    simp only [headB, Bool.and_eq_true, decide_eq_true_eq] at hB
    exact hB.1.1.2
  have hsz : ts.length ≤ a0.tmps.size := by have := ta.rd.len; simp at this; omega
  have hdst : ∀ k k' t, k < n → k' < n → dstAt l k = some t → dstAt l k' = some t → k = k' := fun k k' t hkn hkn' e1 e2 => by
    by_cases hkk : k = k'
    · exact hkk
    · exact absurd ((getElem?_bind_toArray l k').trans e2) (dstsB_ne hd hkn hkn' hkk ((getElem?_bind_toArray l k).trans e1))
  have hdlt : ∀ k t, k < n → dstAt l k = some t → t < ts.length := fun k t hkn e1 => dstsB_lt hd hkn ((getElem?_bind_toArray l k).trans e1)
  refine wp_region_any hm ?_
  have H := wpAny_inv (P := P) (md := .any) (ops := l.toArray) (n := n) (Q := Q) (Inv := fun listed a x => ∃ Cx', LInvA C w.drew l n vs hst hst0 i0 a0 listed a x Cx') hB ?_ ?_ n (Array.replicate l.toArray.size false) a0 w.drew
    ⟨by simp, fun j oj _ hl => (by rw [getD_replicate_false] at hl; cases hl), fun t _ ht => getD_in (by simpa using ht) (getD_replicate_false _ _)⟩ ?_
    ⟨C, Fw.refl _ _, rfl, rfl, ⟨0, Nat.zero_le _, fun j o _ _ _ _ => ⟨fun hl => (by rw [getD_replicate_false] at hl; cases hl), fun h0 => absurd h0 (Nat.not_lt_zero _)⟩, by rw [getD_replicate_false]; show Sim C (hst0.getD 0 []) _; rw [hz]; exact s1⟩, fun _ _ => rfl, fun k t _ hl => (by rw [getD_replicate_false] at hl; cases hl)⟩
  · rw [show n + (l.toArray.size - n) = l.toArray.size by omega] at H
    exact H
  · -- one operation
    rintro listed a x i inv hrd hi ⟨Cy, I⟩
    obtain ⟨hun, o, ho, hall⟩ := mem_ready.1 hrd
    have hoi : l[i]? = some o := by simpa using ho
    have hunf : listed.getD i false = false := getD_both hun
    have hisz : i < listed.size := by
      rw [inv.size]
      omega
    have hlw : ∀ k, waits l.toArray i k = true → listed.getD k false = true := fun k hwk => by
      obtain ⟨oj, hoj, e', he', hbd, hon⟩ := Region.waitsFor_spec hwk
      have : oj = o := Option.some.inj (hoj.symm.trans ho)
      subst this
      have := hall e' he' hbd
      rwa [hon] at this
    have hclo : ∀ j k, waits l.toArray j k = true → listed.getD j false = true → listed.getD k false = true := fun j k hwk hl => by
      obtain ⟨oj, hoj, e', he', hbd, hon⟩ := Region.waitsFor_spec hwk
      have := inv.closed j oj hoj hl e' he' hbd
      rwa [hon] at this
    obtain ⟨hal, hanc⟩ := ancL_spec (n := n) hclo n
    obtain ⟨p, hpn, hpw, sp⟩ := I.at_
    generalize hHS : pickH (listed.getD i0 false) hst hst0 = HS at sp
    have hHSs : ∀ i o, i < n → l[i]? = some o → (isTurn o = false ∨ i = i0) → HS.getD (i + 1) [] = HS.getD i [] := fun i o h1 h2 h3 => by
      obtain ⟨q1, q2⟩ := hstill i o h1 h2 h3
      rw [← hHS]
      unfold pickH
      split
      · exact q1
      · exact q2
    have hwi := List.all_eq_true.1 hw i (List.mem_range.2 hi)
    rw [hoi] at hwi
    simp only [Bool.and_eq_true] at hwi
    have ordS : ∀ j oj, j < n → l[j]? = some oj → isTurn oj = true → j ≠ i0 → i ≠ j → i ≠ i0 → (isTurn o = true ∨ (isLoad o = true ∧ free.contains i = false)) → (if i < j then ((ancL l n n).getD j []).contains i else ((ancL l n n).getD i []).contains j) = true := fun j oj hj hoj hs hj0 hne hi0' hm => by
      have h1 := List.all_eq_true.1 hord j (List.mem_range.2 hj)
      rw [hoj] at h1
      simp only [hs, Bool.not_true, decide_eq_false hj0, Bool.false_or] at h1
      have h2 := List.all_eq_true.1 h1 i (List.mem_range.2 hi)
      rw [hoi] at h2
      simp only [Bool.or_eq_true, decide_eq_true_eq, Bool.not_eq_true'] at h2
      rcases h2 with ((h2 | h2) | h2) | h2
      · exact absurd h2 hne
      · exact absurd h2 hi0'
      · rcases hm with hm | ⟨hm, hf⟩
        · simp [hm] at h2
        · rw [hm, hf] at h2
          simp at h2
      · exact h2
    -- where we stand
    have here : i ≠ i0 → (isTurn o = true ∨ (isLoad o = true ∧ free.contains i = false)) → HS.getD p [] = HS.getD i [] := fun hii hmem => by
      rcases Nat.le_total p i with hpi | hip
      · refine (hst_sameA hHSs hin hpi (by omega) fun j oj h1 h2 h3 => ?_).symm
        by_cases hj0 : j = i0
        · exact .inr hj0
        cases hs : isTurn oj with
        | false => exact .inl rfl
        | true =>
          have h4 := ordS j oj (by omega) h3 hs hj0 (by omega) hii hmem
          rw [if_neg (by omega)] at h4
          have h5 := hanc i hi j (by simpa using h4) hlw
          have := (hpw j oj (by omega) h3 hs hj0).1 h5
          omega
      · refine hst_sameA hHSs hin hip hpn fun j oj h1 h2 h3 => ?_
        by_cases hj0 : j = i0
        · exact .inr hj0
        cases hs : isTurn oj with
        | false => exact .inl rfl
        | true =>
          have h5 := (hpw j oj (by omega) h3 hs hj0).2 h2
          by_cases hij : i = j
          · subst hij
            rw [hunf] at h5
            cases h5
          · have h4 := ordS j oj (by omega) h3 hs hj0 hij hii hmem
            rw [if_pos (by omega)] at h4
            have h6 := hanc j (by omega) i (by simpa using h4) fun q hq => hclo j q hq h5
            rw [hunf] at h6
            cases h6
    have hread : Reads Cy x (lval l n ts (vs.take i) o) a.eval := fun y => by
      cases y with
      | tmp t =>
        simp only [lval]
        cases hix : dstIx l t n with
        | none =>
          have h1 : a.tmps[t]? = a0.tmps[t]? := I.other t (dstIx_none hix)
          have h2 := (ta1.mono I.fw.toEv).reads (.tmp t)
          have h3 : a.eval (.tmp t) = a0.eval (.tmp t) := by simp [Act.eval, h1]
          rw [h3]
          exact h2
        | some k =>
          obtain ⟨hkn, hkd⟩ := dstIx_some hix
          simp only
          split
          · rename_i hdep
            have hmem : k ∈ depsOf l n o := by simpa using hdep
            have hwk : waits l.toArray i k = true := (List.all_eq_true.1 hwi.1) k hmem
            obtain ⟨v, hv1, hv2⟩ := I.val k t hkn (hlw k hwk) hkd
            have hval1 : a.eval (.tmp t) = v := by simp [Act.eval, hv1]
            rw [hval1]
            by_cases hki : k < i
            · have e2 : (vs.take i).getD k .any = vs.getD k .any := by simp [List.getD, List.getElem?_take_of_lt hki]
              rw [e2]
              exact hv2
            · have e2 : (vs.take i).getD k .any = .any := by
                simp only [List.getD]
                rw [List.getElem?_eq_none (by rw [List.length_take]; omega)]
                rfl
              rw [e2]
              trivial
          · trivial
      | const v => exact (rfl : v = v)
      | global g => exact (rfl : (Value.pointer (some ⟨g, 0, none⟩)) = _)
      | func f => exact (rfl : (Value.func (.func f) #[] #[]) = _)
    have hwant : ∀ b, lwanted l (vs.take i) o = some b → Region.wanted o (yielded l.toArray a.tmps) = b := fun b e => by
      unfold lwanted at e
      unfold Region.wanted
      split at e
      · rename_i hg
        cases e
        simp [hg]
      · rename_i j want hg
        rw [hg] at hwi
        simp only [Bool.and_eq_true, decide_eq_true_eq] at hwi
        obtain ⟨hjn, hjw⟩ := hwi.2
        simp only [hg]
        have key : ∀ t u, dstAt l j = some t → (vs.take i)[j]? = some (.raw u) → a.tmps[t]? = some u := fun t u h1 h2 => by
          obtain ⟨v, hv1, hv2⟩ := I.val j t hjn (hlw j hjw) h1
          have h4 : vs.getD j .any = .raw u := by
            have hlt := (List.getElem?_eq_some_iff.1 h2).1
            rw [List.length_take] at hlt
            rw [List.getElem?_take_of_lt (by omega)] at h2
            simp [List.getD, h2]
          rw [h4] at hv2
          simp only [Rd] at hv2
          rw [hv1, hv2]
        split at e
        · rename_i t b' h1 h2
          cases e
          unfold yielded
          rw [getElem?_bind_toArray, h1]
          simp only [Option.bind_some, key _ _ h1 h2]
          cases b' <;> cases want <;> rfl
        · rename_i t u h1 h2
          cases e
          unfold yielded
          rw [getElem?_bind_toArray, h1]
          simp only [Option.bind_some, key _ _ h1 h2]
          rfl
        · cases e
    have setd : (listed.setIfInBounds i true).getD i false = true := by simp [hisz]
    -- what the invariant comes to
    have next : ∀ (d : D) (v : Value) (x' : World) (C' : Cx), vs.getD i .any = d → Fw Cy x C' x' → Rd C' x' d v → (∃ p, p ≤ n ∧ (∀ j oj, j < n → l[j]? = some oj → isTurn oj = true → j ≠ i0 → ((listed.setIfInBounds i true).getD j false = true ↔ j < p)) ∧ Sim C' ((pickH ((listed.setIfInBounds i true).getD i0 false) hst hst0).getD p []) x') → ∃ Cx', LInvA C w.drew l n vs hst hst0 i0 a0 (listed.setIfInBounds i true) (a.put o.dst v) x' Cx' := fun d v x' C' hvg f r hp => by
      have hdo : dstAt l i = o.dst := by simp [dstAt, hoi]
      refine ⟨C', I.fw.trans f, (by rw [← I.defers]; exact put_defers _ _ _), (put_size _ _ _).trans I.size, hp, fun t ht => (put_other _ _ (by rw [← hdo]; exact ht i hi)).trans (I.other t ht), fun k t hkn hl hkd => ?_⟩
      by_cases hki : k = i
      · subst hki
        rw [hdo] at hkd
        rw [hvg]
        refine ⟨v, ?_, r⟩
        rw [hkd]
        exact put_same _ _ (by rw [I.size]; exact Nat.lt_of_lt_of_le (hdlt k t hi (hdo.trans hkd)) hsz)
      · rw [getD_set_ne false (fun e' => hki e'.symm)] at hl
        obtain ⟨u, hu1, hu2⟩ := I.val k t hkn hl hkd
        refine ⟨u, ?_, hu2.mono f.toEv⟩
        rw [put_other _ _ fun e' => hki (hdst k i t hkn hi hkd (hdo.trans e'))]
        exact hu1
    by_cases hii : i = i0
    · -- the new box
      subst hii
      rw [hoi] at hoA
      cases hoA
      have hHS0 : HS = hst0 := by rw [← hHS, hunf]; rfl
      subst hHS0
      obtain ⟨hb1, hb2⟩ := hbox p hpn fun j oj h1 h2 h3 h4 => by
        cases hA : hasA l n i j with
        | false => rfl
        | true =>
          have h5 := (hpw j oj (by omega) h2 h3 h4).2 h1
          have h6 := hanc j (by omega) i (by simpa [hasA] using hA) fun q hq => hclo j q hq h5
          rw [hunf] at h6
          cases h6
      unfold wpOp
      simp only [ho]
      rw [hwant true (by unfold lwanted; rw [hgA]), if_pos rfl]
      refine .inl (aop_sound (call := noCall) (own := false) noCall_ok sp hread (d := .bx (HS.getD p []).length 0) (h' := HS.getD p [] ++ [.box tA zA]) (by unfold aop; rw [hopA]; simp only [hzA]) fun v C' x' f s' r => ?_)
      refine next _ v x' C' (by rw [hb2]; simp [List.getD, hvA]) f r ⟨p, hpn, fun j oj hj hoj hs hj0 => ?_, ?_⟩
      · rw [getD_set_ne false (fun e' => hj0 e'.symm)]
        exact hpw j oj hj hoj hs hj0
      · rw [setd]
        show Sim C' (hst.getD p []) x'
        rw [hb1]
        exact s'
    obtain ⟨o', d, e1, hvd, hstT, hst0T⟩ := hspec i hi hii
    rw [hoi] at e1
    cases e1
    have hvg : vs.getD i .any = d := by simp [List.getD, hvd]
    have hpk : pickH ((listed.setIfInBounds i true).getD i0 false) hst hst0 = HS := by rw [getD_set_ne false hii]; exact hHS
    have hst3 : TStep P l n ts (vs.take i) (HS.getD i []) o d (HS.getD (i + 1) []) := by
      rw [← hHS]
      cases hl0 : listed.getD i0 false with
      | true => exact hstT
      | false =>
        refine hst0T ?_
        cases hA : hasA l n i0 i with
        | false => rfl
        | true =>
          have h6 := hanc i hi i0 (by simpa [hasA] using hA) hlw
          rw [hl0] at h6
          cases h6
    have stay : isTurn o = false → ∃ p, p ≤ n ∧ (∀ j oj, j < n → l[j]? = some oj → isTurn oj = true → j ≠ i0 → ((listed.setIfInBounds i true).getD j false = true ↔ j < p)) ∧ Sim Cy ((pickH ((listed.setIfInBounds i true).getD i0 false) hst hst0).getD p []) x := fun hns => by
      refine ⟨p, hpn, fun j oj hj hoj hs hj0 => ?_, by rw [hpk]; exact sp⟩
      have hji : j ≠ i := fun e' => by
        subst e'
        rw [hoi] at hoj
        cases hoj
        rw [hs] at hns
        cases hns
      rw [getD_set_ne false (fun e' => hji e'.symm)]
      exact hpw j oj hj hoj hs hj0
    have goes : isTurn o = true → ∀ C' x', Sim C' (HS.getD (i + 1) []) x' → ∃ p, p ≤ n ∧ (∀ j oj, j < n → l[j]? = some oj → isTurn oj = true → j ≠ i0 → ((listed.setIfInBounds i true).getD j false = true ↔ j < p)) ∧ Sim C' ((pickH ((listed.setIfInBounds i true).getD i0 false) hst hst0).getD p []) x' := fun his C' x' sx => by
      have hpi : p ≤ i := by
        have := hpw i o hi hoi his hii
        rcases Nat.lt_or_ge i p with h1 | h1
        · have := this.2 h1
          rw [hunf] at this
          cases this
        · exact h1
      refine ⟨i + 1, by omega, fun j oj hj hoj hs hj0 => ?_, by rw [hpk]; exact sx⟩
      by_cases hji : j = i
      · subst hji
        exact ⟨fun _ => Nat.lt_succ_self _, fun _ => setd⟩
      · rw [getD_set_ne false (fun e' => hji e'.symm), hpw j oj hj hoj hs hj0]
        refine ⟨fun h1 => by omega, fun h1 => ?_⟩
        have h4 := ordS j oj hj hoj hs hj0 (fun e' => hji e'.symm) hii (.inl his)
        rw [if_neg (by omega)] at h4
        have h5 := hanc i hi j (by simpa using h4) hlw
        exact (hpw j oj hj hoj hs hj0).1 h5
    unfold wpOp
    simp only [ho]
    rcases hst3 with ⟨hwt, his, htp⟩ | ⟨hwt, hns, hsop, _⟩ | ⟨hwt, hd0, hh2⟩
    · rw [hwant _ hwt, if_pos rfl]
      rw [← here hii (.inl his)] at htp
      exact .inl (htp.out Cy x a sp hread _ _ fun v C' x' f s' r => next d v x' C' hvg f r (goes his C' x' s'))
    · rw [hwant _ hwt, if_pos rfl]
      have hsop' : sop P (lval l n ts (vs.take i) o) o (HS.getD p []) = some d := by
        cases hld : isLoad o with
        | true =>
          cases hfre : free.contains i with
          | false => rw [here hii (.inr ⟨hld, hfre⟩)]; exact hsop
          | true =>
            obtain ⟨o3, d3, q1, q2, q3, q4⟩ := hfr i hi hfre p hpn
            rw [hoi] at q1
            cases q1
            rw [hvd] at q2
            cases q2
            rw [← hHS]
            unfold pickH
            split
            · exact q3
            · exact q4
        | false => rw [sop_still hld]; exact hsop
      obtain ⟨v, k1, k2⟩ := sop_sound sp hread hsop'
      exact .inl (wp_of_value k1 (next d v x Cy hvg (Fw.refl _ _) k2 (stay hns)))
    · rw [hwant _ hwt, if_neg (by simp)]
      subst hd0
      refine next _ undef x Cy hvg (Fw.refl _ _) rfl ?_
      cases hso : isTurn o with
      | false => exact stay hso
      | true => exact goes hso Cy x (by rw [hh2, ← here hii (.inl hso)]; exact sp)
  · -- the tail
    rintro a x ⟨Cy, I⟩
    have hall : ∀ i, i < n → (doneA n (l.toArray.size - n)).getD i false = true := fun i hi => by
      unfold doneA
      simp [List.getElem?_append_left, hi]
    obtain ⟨p, hpn, hpw, sp⟩ := I.at_
    rw [hall i0 hi0] at sp
    have sp : Sim Cy (hst.getD p []) x := sp
    have hend : hst.getD n [] = hst.getD p [] := hst_sameA (fun i o h1 h2 h3 => (hstill i o h1 h2 h3).1) hin hpn (Nat.le_refl _) fun j oj h1 h2 h3 => by
      by_cases hj0 : j = i0
      · exact .inr hj0
      cases hs : isTurn oj with
      | false => exact .inl rfl
      | true =>
        have := (hpw j oj h2 h3 hs hj0).1 (hall j h2)
        omega
    have tfin : ∀ i, i ≤ n → RdL Cy x (lputs l vs i ts) ((putV l.toArray (fun k => match dstAt l k with | some t => a.tmps.getD t undef | none => undef) a0 i).tmps.toList) := by
      intro i
      induction i with
      | zero => intro _; exact (ta1.mono I.fw.toEv).rd
      | succ i ih0 =>
        intro hi
        have ih := ih0 (by omega)
        simp only [lputs, putV]
        have e0 : (l.toArray[i]?).bind (·.dst) = dstAt l i := getElem?_bind_toArray l i
        rw [e0]
        cases hdi : dstAt l i with
        | none => exact ih
        | some t =>
          obtain ⟨v, hv1, hv2⟩ := I.val i t (by omega) (hall i (by omega)) hdi
          have : a.tmps.getD t undef = v := by simp [hv1]
          simp only [putD, Act.put, this]
          simpa using RdL.set hv2 ih t
    have ea : a = putV l.toArray (fun k => match dstAt l k with | some t => a.tmps.getD t undef | none => undef) a0 n := by
      refine Fr.done (ops := l.toArray) (n := n) (m := ts.length) (listed := doneA n (l.toArray.size - n)) ⟨I.size, I.defers, fun t ht => I.other t fun i hi e' => ht i hi ((getElem?_bind_toArray l i).trans e'), fun i t hi hl ht => ?_⟩ hd hsz hall
      have ht' := (getElem?_bind_toArray l i).symm.trans ht
      obtain ⟨v, hv1, hv2⟩ := I.val i t hi (hall i hi) ht'
      simp [ht', hv1]
    have tan : TA Cy x (lputs l vs n ts) a := ⟨by rw [ea]; exact tfin n (Nat.le_refl _), I.defers.trans ta.defers⟩
    have hlist := hk _ _ _ (f1.trans I.fw) (by rw [hend]; exact sp) tan
    simpa using hlist
  · unfold leftH
    have : ((List.range n).filter fun i => !(Array.replicate l.toArray.size false).getD i true) = List.range n := List.filter_eq_self.2 fun i hi => by
      have := List.mem_range.1 hi
      have : i < l.length := by simp at hnsz; omega
      simp [this]
    rw [this, List.length_range]
end
end Go.Proofs.Ytbfmaicoefefaaa.Pv

/- A drawn region with calls that may panic, and loads that may come at any time. -/
import Derived.Test.YtpnfbmhnmhahnaaPvX
/-! ## Part 20 -/
namespace Go.Proofs.Ytpnfbmhnmhahnaa.Pv
open Go Go.RowKit
section
variable {P : Program}
def ordX (l : List Oper) (n m : Nat) (free : List Nat) : Bool :=
  let L := ancL l n n
  (List.range m).all fun j => match l[j]? with
    | some oj => !isTurn oj || (List.range m).all fun i => match l[i]? with
      | some oi => decide (i = j) || !(isTurn oi || (isLoad oi && !free.contains i)) || (if i < j then (L.getD j []).contains i else (L.getD i []).contains j)
      | none => true
    | none => true
/-- An operation that panics. -/
structure PanicsP (P : Program) (ρ : Operand → D) (o : Oper) (h : H) (R : D → H → Prop) : Prop where
  out : ∀ (C : Cx) (w : World) (a : Act), Sim C h w → Reads C w ρ a.eval → ∀ (Rw : Act → World → Prop) (Q : Exit → Act → World → Prop), (∀ d h' v C' w', R d h' → Fw C w C' w' → Sim C' h' w' → Rd C' w' d v → Q (.panic [{ v, recovered := false }]) a w') → o.wp P a w Rw Q
/-- The first m of n operations, in a line. -/
structure XRun (P : Program) (l : List Oper) (n m : Nat) (ts : List D) (h : H) (vs : List D) (hst : List H) : Prop where
  len : vs.length = m
  len2 : hst.length = m + 1
  zero : hst.getD 0 [] = h
  spec : ∀ i, i < m → ∃ o d, l[i]? = some o ∧ vs[i]? = some d ∧ TStep P l n ts (vs.take i) (hst.getD i []) o d (hst.getD (i + 1) [])
/-- The loads that may come at any time. -/
def FreeX (P : Program) (l : List Oper) (n m : Nat) (ts vs : List D) (hst : List H) (free : List Nat) : Prop := ∀ i, i < m → free.contains i = true → ∀ p, p ≤ m → ∃ o d, l[i]? = some o ∧ vs[i]? = some d ∧ sop P (lval l n ts (vs.take i) o) o (hst.getD p []) = some d
structure LInvX (C : Cx) (W : World) (l : List Oper) (n m : Nat) (vs : List D) (hst : List H) (a0 : Act) (listed : Array Bool) (a : Act) (w : World) (Cx' : Cx) : Prop where
  fw : Fw C W Cx' w
  defers : a.defers = a0.defers
  size : a.tmps.size = a0.tmps.size
  at_ : ∃ p, p ≤ m ∧ (∀ j o, j < m → l[j]? = some o → isTurn o = true → (listed.getD j false = true ↔ j < p)) ∧ Sim Cx' (hst.getD p []) w
  other : ∀ t, (∀ i, i < n → dstAt l i ≠ some t) → a.tmps[t]? = a0.tmps[t]?
  val : ∀ k t, k < m → listed.getD k false = true → dstAt l k = some t → ∃ v, a.tmps[t]? = some v ∧ Rd Cx' w (vs.getD k .any) v
  off : ∀ k, m ≤ k → k < n → listed.getD k false = false
theorem hst_sameX {l : List Oper} {n m : Nat} {ts : List D} {vs : List D} {hst : List H} (hspec : ∀ i, i < m → ∃ o d, l[i]? = some o ∧ vs[i]? = some d ∧ TStep P l n ts (vs.take i) (hst.getD i []) o d (hst.getD (i + 1) [])) {p : Nat} : ∀ {q : Nat}, p ≤ q → q ≤ m → (∀ j o, p ≤ j → j < q → l[j]? = some o → isTurn o = false) → hst.getD q [] = hst.getD p []
  | 0, hpq, _, _ => by
    have : p = 0 := by omega
    rw [this]
  | q + 1, hpq, hq, hno => by
    by_cases e : p = q + 1
    · rw [e]
    · obtain ⟨o, d, h1, h2, h3⟩ := hspec q (by omega)
      have hs := hno q o (by omega) (by omega) h1
      have : hst.getD (q + 1) [] = hst.getD q [] := by
        rcases h3 with ⟨_, h3, _⟩ | ⟨_, _, _, h3⟩ | ⟨_, _, h3⟩
        · rw [hs] at h3
          cases h3
        · exact h3
        · exact h3
      rw [this]
      exact hst_sameX hspec (by omega) (by omega) fun j o h1 h2 h3 => hno j o h1 (by omega) h3
theorem aturnX_core (hm : P.follows .mixedOrders = true) {l : List Oper} {n m : Nat} {ts : List D} {h : H} {vs : List D} {hst : List H} {free : List Nat} {Rp : D → H → Prop} (hmn : m ≤ n) (hr : XRun P l n m ts h vs hst) (hst4 : headB .any l.toArray n = true ∧ dstsB l.toArray n ts.length = true ∧ waitsB l n = true ∧ ordX l n (min (m + 1) n) free = true) (hfree : FreeX P l n m ts vs hst free)
    (hpan : m < n → (∃ o, l[m]? = some o ∧ isTurn o = true ∧ lwanted l vs o = some true ∧ PanicsP P (lval l n ts vs o) o (hst.getD m []) Rp) ∧ ∀ k, m < k → k < n → ((ancL l n n).getD k []).contains m = true)
    (id : Nat) {C : Cx} {w : World} {a0 : Act} {Q : Exit → Act → World → Prop} (s : Sim C h w) (ta : TA C w ts a0)
    (hpq : ∀ d h' a' C' w' v, Rp d h' → Fw C w C' w' → Sim C' h' w' → Rd C' w' d v → a'.defers = [] → Q (.panic [{ v, recovered := false }]) a' w')
    (hk : m = n → ∀ a' C' w', Fw C w C' w' → Sim C' (hst.getD n []) w' → TA C' w' (lputs l vs n ts) a' → wpList P l.toArray Q (l.drop n) a' w') : (Code.region id l.toArray true).wp P Q a0 w := by
  obtain ⟨hB, hd, hw, hord⟩ := hst4
  obtain ⟨hlen, hlen2, hz, hspec⟩ := hr
  obtain ⟨s1, f1⟩ := s.drew
  have ta1 := ta.mono f1.toEv
  have hnsz : n ≤ l.toArray.size := by
    simp only [headB, Bool.and_eq_true, decide_eq_true_eq] at hB
    exact hB.1.1.2
  have hsz : ts.length ≤ a0.tmps.size := by have := ta.rd.len; simp at this; omega
  have hdst : ∀ k k' t, k < n → k' < n → dstAt l k = some t → dstAt l k' = some t → k = k' := fun k k' t hkn hkn' e1 e2 => by
    by_cases hkk : k = k'
    · exact hkk
    · exact absurd ((getElem?_bind_toArray l k').trans e2) (dstsB_ne hd hkn hkn' hkk ((getElem?_bind_toArray l k).trans e1))
  have hdlt : ∀ k t, k < n → dstAt l k = some t → t < ts.length := fun k t hkn e1 => dstsB_lt hd hkn ((getElem?_bind_toArray l k).trans e1)
  refine wp_region_any hm ?_
  have H := wpAny_inv (P := P) (md := .any) (ops := l.toArray) (n := n) (Q := Q) (Inv := fun listed a x => ∃ Cx', LInvX C w.drew l n m vs hst a0 listed a x Cx') hB ?_ ?_ n (Array.replicate l.toArray.size false) a0 w.drew
    ⟨by simp, fun j oj _ hl => (by rw [getD_replicate_false] at hl; cases hl), fun t _ ht => getD_in (by simpa using ht) (getD_replicate_false _ _)⟩ ?_
    ⟨C, Fw.refl _ _, rfl, rfl, ⟨0, Nat.zero_le _, fun j o _ _ _ => ⟨fun hl => (by rw [getD_replicate_false] at hl; cases hl), fun h0 => absurd h0 (Nat.not_lt_zero _)⟩, by rw [hz]; exact s1⟩, fun _ _ => rfl, fun k t _ hl => (by rw [getD_replicate_false] at hl; cases hl), fun k _ _ => getD_replicate_false _ _⟩
  · rw [show n + (l.toArray.size - n) = l.toArray.size by omega] at H
    exact H
  · -- one operation
    rintro listed a x i inv hrd hi ⟨Cy, I⟩
    obtain ⟨hun, o, ho, hall⟩ := mem_ready.1 hrd
    have hoi : l[i]? = some o := by simpa using ho
    have hunf : listed.getD i false = false := getD_both hun
    have hisz : i < listed.size := by
      rw [inv.size]
      omega
    have hlw : ∀ k, waits l.toArray i k = true → listed.getD k false = true := fun k hwk => by
      obtain ⟨oj, hoj, e', he', hbd, hon⟩ := Region.waitsFor_spec hwk
      have : oj = o := Option.some.inj (hoj.symm.trans ho)
      subst this
      have := hall e' he' hbd
      rwa [hon] at this
    have hclo : ∀ j k, waits l.toArray j k = true → listed.getD j false = true → listed.getD k false = true := fun j k hwk hl => by
      obtain ⟨oj, hoj, e', he', hbd, hon⟩ := Region.waitsFor_spec hwk
      have := inv.closed j oj hoj hl e' he' hbd
      rwa [hon] at this
    obtain ⟨hal, hanc⟩ := ancL_spec (n := n) hclo n
    have hlm : ∀ k, k < n → listed.getD k false = true → k < m := fun k hkn hl => by
      rcases Nat.lt_or_ge k m with h1 | h1
      · exact h1
      · rw [I.off k h1 hkn] at hl
        cases hl
    have him : i ≤ m := by
      rcases Nat.lt_or_ge m i with h1 | h1
      · have h2 := (hpan (by omega)).2 i h1 hi
        have h3 := hanc i hi m (by simpa using h2) hlw
        have := hlm m (by omega) h3
        omega
      · exact h1
    obtain ⟨p, hpn, hpw, sp⟩ := I.at_
    have hwi := List.all_eq_true.1 hw i (List.mem_range.2 hi)
    rw [hoi] at hwi
    simp only [Bool.and_eq_true] at hwi
    have ordS : ∀ j oj, j < m → l[j]? = some oj → isTurn oj = true → i ≠ j → (isTurn o = true ∨ (isLoad o = true ∧ free.contains i = false)) → (if i < j then ((ancL l n n).getD j []).contains i else ((ancL l n n).getD i []).contains j) = true := fun j oj hj hoj hs hne hm => by
      have h1 := List.all_eq_true.1 hord j (List.mem_range.2 (by omega))
      rw [hoj] at h1
      simp only [hs, Bool.not_true, Bool.false_or] at h1
      have h2 := List.all_eq_true.1 h1 i (List.mem_range.2 (by omega))
      rw [hoi] at h2
      simp only [Bool.or_eq_true, decide_eq_true_eq, Bool.not_eq_true'] at h2
      rcases h2 with (h2 | h2) | h2
      · exact absurd h2 hne
      · rcases hm with hm | ⟨hm, hf⟩
        · simp [hm] at h2
        · rw [hm, hf] at h2
          simp at h2
      · exact h2
    -- where we stand
    have here : (isTurn o = true ∨ (isLoad o = true ∧ free.contains i = false)) → hst.getD p [] = hst.getD i [] := fun hmem => by
      rcases Nat.le_total p i with hpi | hip
      · refine (hst_sameX hspec hpi (by omega) fun j oj h1 h2 h3 => ?_).symm
        cases hs : isTurn oj with
        | false => rfl
        | true =>
          have h4 := ordS j oj (by omega) h3 hs (by omega) hmem
          rw [if_neg (by omega)] at h4
          have h5 := hanc i hi j (by simpa using h4) hlw
          have := (hpw j oj (by omega) h3 hs).1 h5
          omega
      · refine hst_sameX hspec hip hpn fun j oj h1 h2 h3 => ?_
        cases hs : isTurn oj with
        | false => rfl
        | true =>
          have h5 := (hpw j oj (by omega) h3 hs).2 h2
          by_cases hij : i = j
          · subst hij
            rw [hunf] at h5
            cases h5
          · have h4 := ordS j oj (by omega) h3 hs hij hmem
            rw [if_pos (by omega)] at h4
            have h6 := hanc j (by omega) i (by simpa using h4) fun q hq => hclo j q hq h5
            rw [hunf] at h6
            cases h6
    have hread : Reads Cy x (lval l n ts (vs.take i) o) a.eval := fun y => by
      cases y with
      | tmp t =>
        simp only [lval]
        cases hix : dstIx l t n with
        | none =>
          have h1 : a.tmps[t]? = a0.tmps[t]? := I.other t (dstIx_none hix)
          have h2 := (ta1.mono I.fw.toEv).reads (.tmp t)
          have h3 : a.eval (.tmp t) = a0.eval (.tmp t) := by simp [Act.eval, h1]
          rw [h3]
          exact h2
        | some k =>
          obtain ⟨hkn, hkd⟩ := dstIx_some hix
          simp only
          split
          · rename_i hdep
            have hmem : k ∈ depsOf l n o := by simpa using hdep
            have hwk : waits l.toArray i k = true := (List.all_eq_true.1 hwi.1) k hmem
            obtain ⟨v, hv1, hv2⟩ := I.val k t (hlm k hkn (hlw k hwk)) (hlw k hwk) hkd
            have hval1 : a.eval (.tmp t) = v := by simp [Act.eval, hv1]
            rw [hval1]
            by_cases hki : k < i
            · have e2 : (vs.take i).getD k .any = vs.getD k .any := by simp [List.getD, List.getElem?_take_of_lt hki]
              rw [e2]
              exact hv2
            · have e2 : (vs.take i).getD k .any = .any := by
                simp only [List.getD]
                rw [List.getElem?_eq_none (by rw [List.length_take]; omega)]
                rfl
              rw [e2]
              trivial
          · trivial
      | const v => exact (rfl : v = v)
      | global g => exact (rfl : (Value.pointer (some ⟨g, 0, none⟩)) = _)
      | func f => exact (rfl : (Value.func (.func f) #[] #[]) = _)
    have hwant : ∀ b, lwanted l (vs.take i) o = some b → Region.wanted o (yielded l.toArray a.tmps) = b := fun b e => by
      unfold lwanted at e
      unfold Region.wanted
      split at e
      · rename_i hg
        cases e
        simp [hg]
      · rename_i j want hg
        rw [hg] at hwi
        simp only [Bool.and_eq_true, decide_eq_true_eq] at hwi
        obtain ⟨hjn, hjw⟩ := hwi.2
        simp only [hg]
        have key : ∀ t u, dstAt l j = some t → (vs.take i)[j]? = some (.raw u) → a.tmps[t]? = some u := fun t u h1 h2 => by
          obtain ⟨v, hv1, hv2⟩ := I.val j t (hlm j hjn (hlw j hjw)) (hlw j hjw) h1
          have h4 : vs.getD j .any = .raw u := by
            have hlt := (List.getElem?_eq_some_iff.1 h2).1
            rw [List.length_take] at hlt
            rw [List.getElem?_take_of_lt (by omega)] at h2
            simp [List.getD, h2]
          rw [h4] at hv2
          simp only [Rd] at hv2
          rw [hv1, hv2]
        split at e
        · rename_i t b' h1 h2
          cases e
          unfold yielded
          rw [getElem?_bind_toArray, h1]
          simp only [Option.bind_some, key _ _ h1 h2]
          cases b' <;> cases want <;> rfl
        · rename_i t u h1 h2
          cases e
          unfold yielded
          rw [getElem?_bind_toArray, h1]
          simp only [Option.bind_some, key _ _ h1 h2]
          rfl
        · cases e
    by_cases hlast : i = m
    · subst hlast
      obtain ⟨⟨o2, ho2, hturn, hwt, hpp⟩, _⟩ := hpan hi
      rw [hoi] at ho2
      cases ho2
      have hvt : vs.take i = vs := List.take_of_length_le (by omega)
      rw [hvt] at hread hwant
      unfold wpOp
      simp only [ho]
      rw [hwant _ hwt, if_pos rfl]
      rw [← here (.inl hturn)] at hpp
      exact .inl (hpp.out Cy x a sp hread _ _ fun d h' v C' w' q f s' r => hpq d h' a C' w' v q ((f1.trans I.fw).trans f) s' r (I.defers.trans ta.defers))
    have hi' : i < m := by omega
    obtain ⟨o', d, e1, hvd, hst3⟩ := hspec i hi'
    rw [hoi] at e1
    cases e1
    have hvg : vs.getD i .any = d := by simp [List.getD, hvd]
    -- what the invariant comes to
    have next : ∀ (v : Value) (x' : World) (C' : Cx), Fw Cy x C' x' → Rd C' x' d v → (∃ p, p ≤ m ∧ (∀ j oj, j < m → l[j]? = some oj → isTurn oj = true → ((listed.setIfInBounds i true).getD j false = true ↔ j < p)) ∧ Sim C' (hst.getD p []) x') → ∃ Cx', LInvX C w.drew l n m vs hst a0 (listed.setIfInBounds i true) (a.put o.dst v) x' Cx' := fun v x' C' f r hp => by
      have hdo : dstAt l i = o.dst := by simp [dstAt, hoi]
      refine ⟨C', I.fw.trans f, (by rw [← I.defers]; exact put_defers _ _ _), (put_size _ _ _).trans I.size, hp, fun t ht => (put_other _ _ (by rw [← hdo]; exact ht i hi)).trans (I.other t ht), fun k t hkm hl hkd => ?_, fun k h1 h2 => ?_⟩
      · have hkn : k < n := by omega
        by_cases hki : k = i
        · subst hki
          rw [hdo] at hkd
          rw [hvg]
          refine ⟨v, ?_, r⟩
          rw [hkd]
          exact put_same _ _ (by rw [I.size]; exact Nat.lt_of_lt_of_le (hdlt k t hi (hdo.trans hkd)) hsz)
        · rw [getD_set_ne false (fun e' => hki e'.symm)] at hl
          obtain ⟨u, hu1, hu2⟩ := I.val k t hkm hl hkd
          refine ⟨u, ?_, hu2.mono f.toEv⟩
          rw [put_other _ _ fun e' => hki (hdst k i t hkn hi hkd (hdo.trans e'))]
          exact hu1
      · rw [getD_set_ne false (fun e' => by omega)]
        exact I.off k h1 h2
    have setd : (listed.setIfInBounds i true).getD i false = true := by simp [hisz]
    have stay : isTurn o = false → ∃ p, p ≤ m ∧ (∀ j oj, j < m → l[j]? = some oj → isTurn oj = true → ((listed.setIfInBounds i true).getD j false = true ↔ j < p)) ∧ Sim Cy (hst.getD p []) x := fun hns => by
      refine ⟨p, hpn, fun j oj hj hoj hs => ?_, sp⟩
      have hji : j ≠ i := fun e' => by
        subst e'
        rw [hoi] at hoj
        cases hoj
        rw [hs] at hns
        cases hns
      rw [getD_set_ne false (fun e' => hji e'.symm)]
      exact hpw j oj hj hoj hs
    have goes : isTurn o = true → ∀ C' x', Sim C' (hst.getD (i + 1) []) x' → ∃ p, p ≤ m ∧ (∀ j oj, j < m → l[j]? = some oj → isTurn oj = true → ((listed.setIfInBounds i true).getD j false = true ↔ j < p)) ∧ Sim C' (hst.getD p []) x' := fun his C' x' sx => by
      have hpi : p ≤ i := by
        have := hpw i o hi' hoi his
        rcases Nat.lt_or_ge i p with h1 | h1
        · have := this.2 h1
          rw [hunf] at this
          cases this
        · exact h1
      refine ⟨i + 1, by omega, fun j oj hj hoj hs => ?_, sx⟩
      by_cases hji : j = i
      · subst hji
        exact ⟨fun _ => Nat.lt_succ_self _, fun _ => setd⟩
      · rw [getD_set_ne false (fun e' => hji e'.symm), hpw j oj hj hoj hs]
        refine ⟨fun h1 => by omega, fun h1 => ?_⟩
        have h4 := ordS j oj hj hoj hs (fun e' => hji e'.symm) (.inl his)
        rw [if_neg (by omega)] at h4
        have h5 := hanc i hi j (by simpa using h4) hlw
        exact (hpw j oj hj hoj hs).1 h5
    unfold wpOp
    simp only [ho]
    rcases hst3 with ⟨hwt, his, htp⟩ | ⟨hwt, hns, hsop, _⟩ | ⟨hwt, hd0, hh2⟩
    · rw [hwant _ hwt, if_pos rfl]
      rw [← here (.inl his)] at htp
      exact .inl (htp.out Cy x a sp hread _ _ fun v C' x' f s' r => next v x' C' f r (goes his C' x' s'))
    · rw [hwant _ hwt, if_pos rfl]
      have hsop' : sop P (lval l n ts (vs.take i) o) o (hst.getD p []) = some d := by
        cases hld : isLoad o with
        | true =>
          cases hfr : free.contains i with
          | false => rw [here (.inr ⟨hld, hfr⟩)]; exact hsop
          | true =>
            obtain ⟨o3, d3, q1, q2, q3⟩ := hfree i hi' hfr p hpn
            rw [hoi] at q1
            cases q1
            rw [hvd] at q2
            cases q2
            exact q3
        | false => rw [sop_still hld]; exact hsop
      obtain ⟨v, k1, k2⟩ := sop_sound sp hread hsop'
      exact .inl (wp_of_value k1 (next v x Cy (Fw.refl _ _) k2 (stay hns)))
    · rw [hwant _ hwt, if_neg (by simp)]
      subst hd0
      refine next undef x Cy (Fw.refl _ _) rfl ?_
      cases hso : isTurn o with
      | false => exact stay hso
      | true => exact goes hso Cy x (by rw [hh2, ← here (.inl hso)]; exact sp)
  · -- the tail
    rintro a x ⟨Cy, I⟩
    have hall : ∀ i, i < n → (doneA n (l.toArray.size - n)).getD i false = true := fun i hi => by
      unfold doneA
      simp [List.getElem?_append_left, hi]
    have hmn' : n = m := by
      rcases Nat.lt_or_ge m n with h1 | h1
      · have h2 := I.off m (Nat.le_refl _) h1
        rw [hall m h1] at h2
        cases h2
      · omega
    subst hmn'
    obtain ⟨p, hpn, hpw, sp⟩ := I.at_
    have hend : hst.getD n [] = hst.getD p [] := hst_sameX hspec hpn (Nat.le_refl _) fun j oj h1 h2 h3 => by
      cases hs : isTurn oj with
      | false => rfl
      | true =>
        have := (hpw j oj h2 h3 hs).1 (hall j h2)
        omega
    have tfin : ∀ i, i ≤ n → RdL Cy x (lputs l vs i ts) ((putV l.toArray (fun k => match dstAt l k with | some t => a.tmps.getD t undef | none => undef) a0 i).tmps.toList) := by
      intro i
      induction i with
      | zero => intro _; exact (ta1.mono I.fw.toEv).rd
      | succ i ih0 =>
        intro hi
        have ih := ih0 (by omega)
        simp only [lputs, putV]
        have e0 : (l.toArray[i]?).bind (·.dst) = dstAt l i := getElem?_bind_toArray l i
        rw [e0]
        cases hdi : dstAt l i with
        | none => exact ih
        | some t =>
          obtain ⟨v, hv1, hv2⟩ := I.val i t (by omega) (hall i (by omega)) hdi
          have : a.tmps.getD t undef = v := by simp [hv1]
          simp only [putD, Act.put, this]
          simpa using RdL.set hv2 ih t
    have ea : a = putV l.toArray (fun k => match dstAt l k with | some t => a.tmps.getD t undef | none => undef) a0 n := by
      refine Fr.done (ops := l.toArray) (n := n) (m := ts.length) (listed := doneA n (l.toArray.size - n)) ⟨I.size, I.defers, fun t ht => I.other t fun i hi e' => ht i hi ((getElem?_bind_toArray l i).trans e'), fun i t hi hl ht => ?_⟩ hd hsz hall
      have ht' := (getElem?_bind_toArray l i).symm.trans ht
      obtain ⟨v, hv1, hv2⟩ := I.val i t hi (hall i hi) ht'
      simp [ht', hv1]
    have tan : TA Cy x (lputs l vs n ts) a := ⟨by rw [ea]; exact tfin n (Nat.le_refl _), I.defers.trans ta.defers⟩
    have hlist := hk rfl _ _ _ (f1.trans I.fw) (by rw [hend]; exact sp) tan
    simpa using hlist
  · unfold leftH
    have : ((List.range n).filter fun i => !(Array.replicate l.toArray.size false).getD i true) = List.range n := List.filter_eq_self.2 fun i hi => by
      have := List.mem_range.1 hi
      have : i < l.length := by simp at hnsz; omega
      simp [this]
    rw [this, List.length_range]
end
end Go.Proofs.Ytpnfbmhnmhahnaa.Pv

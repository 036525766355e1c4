/- limbeckref08: Binds and Fuse. -/
import Derived.Test.YtllehceckdcbaaaPcR
namespace Go.Proofs.Ytllehceckdcbaaa
open Go.RowKit Pv
/-! ### Binds -/
def lessB : List Bd → List Bd → Bool
  | [], [] => true
  | p :: r, q :: s => (decide (p.1 = q.1) && lessT p.2 q.2) && lessB r s
  | [], _ :: _ => false
  | _ :: _, [] => false
theorem lessB_len : ∀ {a b : List Bd}, lessB a b = true → a.length = b.length
  | [], [], _ => rfl
  | p :: r, q :: s, h => by
    simp only [lessB, Bool.and_eq_true] at h
    simp only [List.length_cons, lessB_len h.2]
  | [], _ :: _, h => by cases h
  | _ :: _, [], h => by cases h
theorem lessB_at : ∀ {a b : List Bd}, a.length = b.length → (lessB a b = true ↔ ∀ (j : Nat) (p q : Bd), a[j]? = some p → b[j]? = some q → p.1 = q.1 ∧ lessT p.2 q.2 = true)
  | [], [], _ => ⟨fun _ j p q h => by simp at h, fun _ => rfl⟩
  | t :: r, u :: q, hl => by
    simp only [lessB, Bool.and_eq_true, decide_eq_true_eq]
    rw [lessB_at (a := r) (b := q) (by simpa using hl)]
    constructor
    · rintro ⟨h1, h2⟩ j x y hx hy
      cases j with
      | zero => simp at hx hy; subst hx hy; exact h1
      | succ j => exact h2 j x y (by simpa using hx) (by simpa using hy)
    · intro h
      exact ⟨h 0 t u rfl rfl, fun j x y hx hy => h (j + 1) x y (by simpa using hx) (by simpa using hy)⟩
  | [], _ :: _, h => by simp at h
  | _ :: _, [], h => by simp at h
set_option maxRecDepth 20000 in
set_option maxHeartbeats 4000000 in
theorem rbindsL_run (a b : List Bd) (hl : a.length = b.length) (hks : a.length ≤ 1000000)
    (hc : ∀ t ∈ a, ∀ u ∈ b, CP (TT ()) 30 [tyD t.2, tyD u.2] (· = .raw (.bool (lessT t.2 u.2)))) (Q : D → H → Prop) (hQ : ∀ h', Q (.raw (.bool (lessB a b))) h') :
    wfun TT 14 [.sl none 6 (bnsD a), .sl none 6 (bnsD b)] [] Q := by
  have q2 : lessB a b ≠ true → ∀ h', Q (.raw (.bool false)) h' := fun h => by rw [Bool.eq_false_iff.2 h] at hQ; exact hQ
  have q3 : lessB a b = true → ∀ h', Q (.raw (.bool true)) h' := fun h => by rw [h] at hQ; exact hQ
  have hKl := bns_len a
  have hKl' := bns_len b
  have hKi := bns_idb a
  have hKi' := bns_idb b
  have hKat := fun i => bns_at (m := a) (i := i)
  have hKat' := fun i => bns_at (m := b) (i := i)
  clear hQ
  generalize bnsD a = KS at hKl hKi hKat ⊢
  generalize bnsD b = KS' at hKl' hKi' hKat' ⊢
  cbv
  (repeat'((first|(apply zS;kernel_rfl)|(apply zD;decide +kernel)|(apply zE;decide +kernel)|(apply zF;decide +kernel)|(apply zL;decide +kernel)|(apply zM;decide +kernel)|(apply zN;intros)|(apply zO;intros)|(apply zT;omega)|(apply zU;omega)|(apply zP;omega;intros)|(apply zQ;omega;intros)|apply zR);cbv))
  refine LoopK.put (X := Int) (fun x => [(5, .raw (.int .i64 x))]) (fun _ => []) (fun x => a.length - x.toNat) (fun x => 0 ≤ x ∧ x.toNat ≤ a.length ∧ ∀ (j : Nat) (t u : Bd), j < x.toNat → a[j]? = some t → b[j]? = some u → t.1 = u.1 ∧ lessT t.2 u.2 = true) 0 ⟨by simp, by simp, fun j t u hj => absurd hj (Nat.not_lt_zero _)⟩ rfl rfl ?_
  rintro i N ⟨h0, hi, hj⟩ hN
  simp only at h0 hi hj hN ⊢
  cbv
  (repeat'((first|(apply zS;kernel_rfl)|(apply zD;decide +kernel)|(apply zE;decide +kernel)|(apply zF;decide +kernel)|(apply zL;decide +kernel)|(apply zM;decide +kernel)|(apply zN;intros)|(apply zO;intros)|(apply zT;omega)|(apply zU;omega)|(apply zP;omega;intros)|(apply zQ;omega;intros)|apply zR);cbv))
  refine BinK.lss ?_ ?_ <;> intro hlt <;> cbv <;> (repeat'((first|(apply zS;kernel_rfl)|(apply zD;decide +kernel)|(apply zE;decide +kernel)|(apply zF;decide +kernel)|(apply zL;decide +kernel)|(apply zM;decide +kernel)|(apply zN;intros)|(apply zO;intros)|(apply zT;omega)|(apply zU;omega)|(apply zP;omega;intros)|(apply zQ;omega;intros)|apply zR);cbv))
  · obtain ⟨t, ht, hK⟩ := hKat i.toNat (by omega)
    obtain ⟨u, hu, hK'⟩ := hKat' i.toNat (by omega)
    have hct := hc t (List.mem_of_getElem? ht) u (List.mem_of_getElem? hu)
    have hpt := ty_pure t.2
    have hpu := ty_pure u.2
    have hno : ¬ (t.1 = u.1 ∧ lessT t.2 u.2 = true) → ∀ h', Q (.raw (.bool false)) h' := fun e => q2 fun h => e ((lessB_at hl).1 h i.toNat t u ht hu)
    have hnext : t.1 = u.1 → lessT t.2 u.2 = true → ∀ r : Int, r = i + 1 → ∀ (j : Nat) (t u : Bd), j < r.toNat → a[j]? = some t → b[j]? = some u → t.1 = u.1 ∧ lessT t.2 u.2 = true := fun e1 e2 r hr j x y hjr hx hy => by
      by_cases hji : j = i.toNat
      · rw [hji, ht] at hx
        rw [hji, hu] at hy
        cases hx
        cases hy
        exact ⟨e1, e2⟩
      · exact hj j x y (by omega) hx hy
    generalize lessT t.2 u.2 = bb at hct hno hnext
    obtain ⟨k0, n0, m0, L0, K0, f0, f0', i0, j0⟩ := bn_node t
    obtain ⟨k1, n1, m1, L1, K1, f1, f1', i1, j1⟩ := bn_node u
    clear i0 j0 i1 j1
    rw [f0'] at hct hpt
    rw [f0] at hK
    rw [f1'] at hct hpu
    rw [f1] at hK'
    clear f0 f1 f0' f1' hc q2 q3 hj ht hu
    generalize t.1 = s1 at hK hno hnext
    generalize u.1 = s2 at hK' hno hnext
    refine IdxK.intro h0 hK ?_
    cbv
    (repeat'((first|(apply zS;kernel_rfl)|(apply zD;decide +kernel)|(apply zE;decide +kernel)|(apply zF;decide +kernel)|(apply zL;decide +kernel)|(apply zM;decide +kernel)|(apply zN;intros)|(apply zO;intros)|(apply zT;omega)|(apply zU;omega)|(apply zP;omega;intros)|(apply zQ;omega;intros)|apply zR);cbv))
    refine IdxK.intro h0 hK' ?_
    cbv
    (repeat'((first|(apply zS;kernel_rfl)|(apply zD;decide +kernel)|(apply zE;decide +kernel)|(apply zF;decide +kernel)|(apply zL;decide +kernel)|(apply zM;decide +kernel)|(apply zN;intros)|(apply zO;intros)|(apply zT;omega)|(apply zU;omega)|(apply zP;omega;intros)|(apply zQ;omega;intros)|apply zR);cbv))
    refine BinK.sneq ?_ ?_ <;> intro hs
    · cbv
      (repeat'((first|(apply zS;kernel_rfl)|(apply zD;decide +kernel)|(apply zE;decide +kernel)|(apply zF;decide +kernel)|(apply zL;decide +kernel)|(apply zM;decide +kernel)|(apply zN;intros)|(apply zO;intros)|(apply zT;omega)|(apply zU;omega)|(apply zP;omega;intros)|(apply zQ;omega;intros)|apply zR);cbv))
      exact ⟨hno (fun h => hs h.1) _⟩
    cbv
    (repeat'((first|(apply zS;kernel_rfl)|(apply zD;decide +kernel)|(apply zE;decide +kernel)|(apply zF;decide +kernel)|(apply zL;decide +kernel)|(apply zM;decide +kernel)|(apply zN;intros)|(apply zO;intros)|(apply zT;omega)|(apply zU;omega)|(apply zP;omega;intros)|(apply zQ;omega;intros)|apply zR);cbv))
    refine IdxK.intro h0 hK ?_
    cbv
    (repeat'((first|(apply zS;kernel_rfl)|(apply zD;decide +kernel)|(apply zE;decide +kernel)|(apply zF;decide +kernel)|(apply zL;decide +kernel)|(apply zM;decide +kernel)|(apply zN;intros)|(apply zO;intros)|(apply zT;omega)|(apply zU;omega)|(apply zP;omega;intros)|(apply zQ;omega;intros)|apply zR);cbv))
    refine IdxK.intro h0 hK' ?_
    cbv
    (repeat'((first|(apply zS;kernel_rfl)|(apply zD;decide +kernel)|(apply zE;decide +kernel)|(apply zF;decide +kernel)|(apply zL;decide +kernel)|(apply zM;decide +kernel)|(apply zN;intros)|(apply zO;intros)|(apply zT;omega)|(apply zU;omega)|(apply zP;omega;intros)|(apply zQ;omega;intros)|apply zR);cbv))
    refine .one hct (cons_pure hpt (cons_pure hpu rfl)) rfl ?_
    rcases bb with _ | _
    · cbv
      (repeat'((first|(apply zS;kernel_rfl)|(apply zD;decide +kernel)|(apply zE;decide +kernel)|(apply zF;decide +kernel)|(apply zL;decide +kernel)|(apply zM;decide +kernel)|(apply zN;intros)|(apply zO;intros)|(apply zT;omega)|(apply zU;omega)|(apply zP;omega;intros)|(apply zQ;omega;intros)|apply zR);cbv))
      exact ⟨hno (fun h => by cases h.2) _⟩
    have hnext := hnext hs rfl
    cbv
    (repeat'((first|(apply zS;kernel_rfl)|(apply zD;decide +kernel)|(apply zE;decide +kernel)|(apply zF;decide +kernel)|(apply zL;decide +kernel)|(apply zM;decide +kernel)|(apply zN;intros)|(apply zO;intros)|(apply zT;omega)|(apply zU;omega)|(apply zP;omega;intros)|(apply zQ;omega;intros)|apply zR);cbv))
    rename_i r hr
    have hnext := hnext r hr
    refine RoundK.next r ⟨by omega, by omega, hnext⟩ (by omega) rfl rfl
  · have hLt : lessB a b = true := (lessB_at hl).2 fun j t u ht hu => hj j t u (by have := (List.getElem?_eq_some_iff.1 ht).1; omega) ht hu
    exact ⟨q3 hLt _⟩
set_option maxRecDepth 20000 in
theorem rbindsL_off (a b : List Bd) (hl : a.length ≠ b.length) (Q : D → H → Prop) (hQ : ∀ h', Q (.raw (.bool false)) h') : wfun TT 14 [.sl none 6 (bnsD a), .sl none 6 (bnsD b)] [] Q := by
  have hKl := bns_len a
  have hKl' := bns_len b
  generalize bnsD a = KS at hKl ⊢
  generalize bnsD b = KS' at hKl' ⊢
  cbv
  (repeat'((first|(apply zS;kernel_rfl)|(apply zD;decide +kernel)|(apply zE;decide +kernel)|(apply zF;decide +kernel)|(apply zL;decide +kernel)|(apply zM;decide +kernel)|(apply zN;intros)|(apply zO;intros)|(apply zT;omega)|(apply zU;omega)|(apply zP;omega;intros)|(apply zQ;omega;intros)|apply zR);cbv))
  exact ⟨hQ _⟩
theorem rbindsL_len (a b : List Bd) (ha : okB a) (hb : okB b) (hk : a.length ≤ 1000000) (hn : ∀ t ∈ a, lenT t.2) : CP (TT ()) 14 [.sl none 6 (bnsD a), .sl none 6 (bnsD b)] (· = .raw (.bool (lessB a b))) := by
  by_cases hl : a.length = b.length
  · exact c4_run (rbindsL_run a b hl hk fun t ht u hu => rless_len t.2 (hn t ht) (ha t ht).2 u.2 (hb u hu).2)
  · have e : lessB a b = false := by
      rw [Bool.eq_false_iff]
      exact fun h => hl (lessB_len h)
    rw [e]
    exact c4_run (rbindsL_off a b hl)
theorem rbindsL_cp (a b : List Bd) (ha : okB a) (hb : okB b) (hk : a.length ≤ 1000000) (hn : ∀ t ∈ a, nodesT t.2 ≤ 1000000) : CP (TT ()) 14 [.sl none 6 (bnsD a), .sl none 6 (bnsD b)] (· = .raw (.bool (lessB a b))) := rbindsL_len a b ha hb hk fun t ht => nodes_lenT t.2 (hn t ht)
/-! ### Fuse -/
def optT (o : Option Ty5) : Ty5 := o.getD ty0
def optP (o : Option Ty5) : D := .tup [tyD (optT o), .raw (.bool o.isSome)]
theorem optP_pure (o : Option Ty5) : pureD (optP o) = some (optP o) := by simp [optP, pureD, pureL, ty_pure]
theorem fuseL_of : ∀ {a b vs : List Ty5}, a.length = b.length → vs.length = a.length → (∀ (j : Nat) (t u : Ty5), a[j]? = some t → b[j]? = some u → fuseT t u = vs[j]?) → fuseL a b = some vs
  | [], [], [], _, _, _ => rfl
  | t :: r, u :: q, v :: vs, h1, h2, h => by
    have e := h 0 t u rfl rfl
    simp only [List.getElem?_cons_zero] at e
    simp only [fuseL, e]
    rw [fuseL_of (a := r) (b := q) (vs := vs) (by simpa using h1) (by simpa using h2) fun j x y hx hy => by
      have := h (j + 1) x y (by simpa using hx) (by simpa using hy)
      simpa using this]
    rfl
  | [], _ :: _, _, h, _, _ => by simp at h
  | _ :: _, [], _, h, _, _ => by simp at h
  | [], [], _ :: _, _, h, _ => by simp at h
  | _ :: _, _ :: _, [], _, h, _ => by simp at h
theorem fuseL_not : ∀ {a b : List Ty5} {j : Nat} {t u : Ty5}, a[j]? = some t → b[j]? = some u → fuseT t u = none → fuseL a b = none
  | [], _, _, _, _, h, _, _ => by simp at h
  | _ :: _, [], _, _, _, _, h, _ => by simp at h
  | x :: r, y :: q, 0, t, u, h1, h2, h => by
    simp at h1 h2
    subst h1 h2
    simp only [fuseL, h]
  | x :: r, y :: q, j + 1, t, u, h1, h2, h => by
    simp only [fuseL]
    rw [fuseL_not (a := r) (b := q) (j := j) (by simpa using h1) (by simpa using h2) h]
    cases fuseT x y <;> rfl
end Go.Proofs.Ytllehceckdcbaaa

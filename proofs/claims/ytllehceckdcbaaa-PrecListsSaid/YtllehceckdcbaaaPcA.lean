/- The program's precision of types: unknown, alike, agree, Less, All, Binds, as contracts over data. -/
import Derived.Test.YtllehceckdcbaaaTyLn
import Derived.Test.YtllehceckdcbaaaPcF
import Derived.Test.YtllehceckdcbaaaTySp
namespace Go.Proofs.Ytllehceckdcbaaa
open Go.RowKit Pv
theorem psameq_cp (a b : Ty5) (ha : okT a) (hb : okT b) : CP (TT ()) 47 [tyD a, tyD b] (· = .raw (.bool (sameT a b))) :=
  cp_raw (callable_at Try.func47 (by kernel_rfl) rfl) fun S w args r => by
    obtain ⟨v, v', rfl, h, h'⟩ := rdL_two r
    obtain ⟨u0, u1, u2, u3, u4, rfl, hA⟩ := ty_in a ha h
    obtain ⟨v0, v1, v2, v3, v4, rfl, hB⟩ := ty_in b hb h'
    exact psameTy_any _ a b _ _ _ _ _ _ _ _ _ _ w (Nat.le_refl _) hA hB
theorem CP.argW {k : FuncId} {ds es : List D} {Q : D → Prop} (c : CP (TT ()) k es Q) (hw : WkL ds es) : CP (TT ()) k ds Q :=
  ⟨c.1, fun S w args hS r => c.2 S w args hS (hw _ _ _ r)⟩
/-- A type without its parts. -/
def bareT : Ty5 → Ty5
  | .mk k n nm ls _ => .mk k n nm ls []
theorem bareT_ok {t : Ty5} (h : okT t) : okT (bareT t) := by
  obtain ⟨k, n, nm, ls, ks⟩ := t
  exact ⟨h.1, h.2.1, trivial⟩
theorem bare_alike (a b : Ty5) : (sameT (bareT a) (bareT b) && (argsT a).length == (argsT b).length) = alikeT a b := by
  obtain ⟨k, n, nm, ls, ks⟩ := a
  obtain ⟨k', n', nm', ls', ks'⟩ := b
  rw [Bool.eq_iff_iff, alike_iff, Bool.and_eq_true, same_iff, beq_iff_eq]
  simp only [bareT, argsT, Ty5.mk.injEq]
  constructor
  · rintro ⟨⟨h1, h2, h3, h4, _⟩, h5⟩
    exact ⟨h1, h2, h3, h4, h5⟩
  · rintro ⟨h1, h2, h3, h4, h5⟩
    exact ⟨⟨h1, h2, h3, h4, trivial⟩, h5⟩
set_option maxRecDepth 20000 in
theorem punknown_cp (t : Ty5) (ho : okT t) : CP (TT ()) 38 [tyD t] (· = .raw (.bool (isDyn t))) := by
  have c2 : CP (TT ()) 47 [tyD t, tyD dynT] (· = .raw (.bool (isDyn t))) := psameq_cp t dynT ho dynT_ok
  have hp := ty_pure t
  generalize isDyn t = b at c2 ⊢
  obtain ⟨k, n, nm, L, K, f0, _, _⟩ := c4_node t
  rw [f0] at c2 hp ⊢
  have c3 : CP (TT ()) 47 [.agg [.raw (.int .i64 k), .raw (.int .i64 n), .raw (.string nm), .sl none 1 L, .sl none 5 K], .agg [.raw (.int .i64 5), .raw (.int .i64 0), .raw (.string ⟨#[]⟩), .raw (.slice none 0 0), .raw (.slice none 0 0)]] (· = .raw (.bool b)) :=
    CP.argW c2 (.cons (.refl _) (.cons (.agg (.cons (.refl _) (.cons (.refl _) (.cons (.refl _) (.cons (nil_any 1) (.cons (nil_any 5) .nil)))))) .nil))
  refine c4_run fun Q hQ => ?_
  cbv
  (repeat'((first|(apply zS;kernel_rfl)|(apply zD;decide +kernel)|(apply zE;decide +kernel)|(apply zF;decide +kernel)|(apply zL;decide +kernel)|(apply zM;decide +kernel)|(apply zN;intros)|(apply zO;intros)|(apply zT;omega)|(apply zU;omega)|(apply zP;omega;intros)|(apply zQ;omega;intros)|apply zR);cbv))
  refine .one c3 (cons_pure hp rfl) rfl ?_
  cbv
  (repeat'((first|(apply zS;kernel_rfl)|(apply zD;decide +kernel)|(apply zE;decide +kernel)|(apply zF;decide +kernel)|(apply zL;decide +kernel)|(apply zM;decide +kernel)|(apply zN;intros)|(apply zO;intros)|(apply zT;omega)|(apply zU;omega)|(apply zP;omega;intros)|(apply zQ;omega;intros)|apply zR);cbv))
  exact ⟨hQ _⟩
set_option maxRecDepth 20000 in
theorem palike_cp (a b : Ty5) (ha : okT a) (hb : okT b) : CP (TT ()) 39 [tyD a, tyD b] (· = .raw (.bool (sameT (bareT a) (bareT b)))) := by
  have c2 := psameq_cp _ _ (bareT_ok ha) (bareT_ok hb)
  generalize sameT (bareT a) (bareT b) = r at c2 ⊢
  obtain ⟨k, n, nm, ls, ks⟩ := a
  obtain ⟨k', n', nm', ls', ks'⟩ := b
  have hlp := strs_pure ls
  have hlp' := strs_pure ls'
  simp only [bareT, tyD, tysD] at c2 ⊢
  generalize ls.map strD = LS at c2 hlp ⊢
  generalize ls'.map strD = LS' at c2 hlp' ⊢
  generalize tysD ks = KS
  generalize tysD ks' = KS'
  have c3 : CP (TT ()) 47 [.agg [.raw (.int .i64 k), .raw (.int .i64 n), .raw (.string nm), .sl none 1 LS, .raw (.slice none 0 0)], .agg [.raw (.int .i64 k'), .raw (.int .i64 n'), .raw (.string nm'), .sl none 1 LS', .raw (.slice none 0 0)]] (· = .raw (.bool r)) :=
    CP.argW c2 (.cons (.agg (.cons (.refl _) (.cons (.refl _) (.cons (.refl _) (.cons (.refl _) (.cons (nil_any 5) .nil)))))) (.cons (.agg (.cons (.refl _) (.cons (.refl _) (.cons (.refl _) (.cons (.refl _) (.cons (nil_any 5) .nil)))))) .nil))
  refine c4_run fun Q hQ => ?_
  cbv
  (repeat'((first|(apply zS;kernel_rfl)|(apply zD;decide +kernel)|(apply zE;decide +kernel)|(apply zF;decide +kernel)|(apply zL;decide +kernel)|(apply zM;decide +kernel)|(apply zN;intros)|(apply zO;intros)|(apply zT;omega)|(apply zU;omega)|(apply zP;omega;intros)|(apply zQ;omega;intros)|apply zR);cbv))
  refine .one c3 (by simp [pureL, pureD, hlp, hlp']) rfl ?_
  cbv
  (repeat'((first|(apply zS;kernel_rfl)|(apply zD;decide +kernel)|(apply zE;decide +kernel)|(apply zF;decide +kernel)|(apply zL;decide +kernel)|(apply zM;decide +kernel)|(apply zN;intros)|(apply zO;intros)|(apply zT;omega)|(apply zU;omega)|(apply zP;omega;intros)|(apply zQ;omega;intros)|apply zR);cbv))
  exact ⟨hQ _⟩
/-! ### agree -/
def all2 {α : Type} (p : α → α → Bool) : List α → List α → Bool
  | [], [] => true
  | x :: r, y :: q => p x y && all2 p r q
  | _, _ => false
theorem all2_len {α : Type} {p : α → α → Bool} : ∀ {a b : List α}, all2 p a b = true → a.length = b.length
  | [], [], _ => rfl
  | x :: r, y :: q, h => by
    simp only [all2, Bool.and_eq_true] at h
    simp only [List.length_cons, all2_len h.2]
  | [], _ :: _, h => by cases h
  | _ :: _, [], h => by cases h
theorem all2_at {α : Type} {p : α → α → Bool} : ∀ {a b : List α}, a.length = b.length → (all2 p a b = true ↔ ∀ (j : Nat) (t u : α), a[j]? = some t → b[j]? = some u → p t u = true)
  | [], [], _ => ⟨fun _ j t u h => by simp at h, fun _ => rfl⟩
  | t :: r, u :: q, hl => by
    simp only [all2, Bool.and_eq_true]
    rw [all2_at (a := r) (b := q) (by simpa using hl)]
    constructor
    · rintro ⟨h1, h2⟩ j x y hx hy
      cases j with
      | zero => simp at hx hy; subst hx hy; exact h1
      | succ j => exact h2 j x y (by simpa using hx) (by simpa using hy)
    · intro h
      exact ⟨h 0 t u rfl rfl, fun j x y hx hy => h (j + 1) x y (by simpa using hx) (by simpa using hy)⟩
  | [], _ :: _, h => by simp at h
  | _ :: _, [], h => by simp at h
theorem lessL_all : ∀ (a b : List Ty5), lessL a b = all2 lessT a b
  | [], [] => rfl
  | x :: r, y :: q => by simp only [lessL, all2, lessL_all r q]
  | [], _ :: _ => rfl
  | _ :: _, [] => rfl
def lessP (p q : Bd) : Bool := decide (p.1 = q.1) && lessT p.2 q.2
theorem lessB_all : ∀ (a b : List Bd), lessB a b = all2 lessP a b
  | [], [] => rfl
  | x :: r, y :: q => by simp only [lessB, all2, lessB_all r q, lessP]
  | [], _ :: _ => rfl
  | _ :: _, [] => rfl
set_option maxRecDepth 20000 in
set_option maxHeartbeats 4000000 in
theorem agreeT_run (f : FuncId) (p : Ty5 → Ty5 → Bool) (a b : List Ty5) (hl : a.length = b.length) (hks : a.length ≤ 9223372036854775807)
    (hc : ∀ t ∈ a, ∀ u ∈ b, CP (TT ()) f [tyD t, tyD u] (· = .raw (.bool (p t u)))) (Q : D → H → Prop) (hQ : ∀ h', Q (.raw (.bool (all2 p a b))) h') :
    wfun TT 29 [.sl none 5 (tysD a), .sl none 5 (tysD b), .fn (.func f) [] []] [] Q := by
  have q2 : all2 p a b ≠ true → ∀ h', Q (.raw (.bool false)) h' := fun h => by rw [Bool.eq_false_iff.2 h] at hQ; exact hQ
  have q3 : all2 p a b = true → ∀ h', Q (.raw (.bool true)) h' := fun h => by rw [h] at hQ; exact hQ
  have hKl := tys_len a
  have hKl' := tys_len b
  have hKi := tys_idb a
  have hKi' := tys_idb b
  have hKat := fun i => tys_at (ks := a) (i := i)
  have hKat' := fun i => tys_at (ks := b) (i := i)
  clear hQ
  generalize tysD a = KS at hKl hKi hKat ⊢
  generalize tysD b = KS' at hKl' hKi' hKat' ⊢
  cbv
  (repeat'((first|(apply zS;kernel_rfl)|(apply zD;decide +kernel)|(apply zE;decide +kernel)|(apply zF;decide +kernel)|(apply zL;decide +kernel)|(apply zM;decide +kernel)|(apply zN;intros)|(apply zO;intros)|(apply zT;omega)|(apply zU;omega)|(apply zP;omega;intros)|(apply zQ;omega;intros)|apply zR);cbv))
  refine LoopK.put (X := Int) (fun x => [(16, .raw (.int .i64 x))]) (fun _ => []) (fun x => a.length - x.toNat) (fun x => 0 ≤ x ∧ x.toNat ≤ a.length ∧ ∀ (j : Nat) (t u : Ty5), j < x.toNat → a[j]? = some t → b[j]? = some u → p t u = true) 0 ⟨by simp, by simp, fun j t u hj => absurd hj (Nat.not_lt_zero _)⟩ rfl rfl ?_
  rintro i N ⟨h0, hi, hj⟩ hN
  simp only at h0 hi hj hN ⊢
  cbv
  (repeat'((first|(apply zS;kernel_rfl)|(apply zD;decide +kernel)|(apply zE;decide +kernel)|(apply zF;decide +kernel)|(apply zL;decide +kernel)|(apply zM;decide +kernel)|(apply zN;intros)|(apply zO;intros)|(apply zT;omega)|(apply zU;omega)|(apply zP;omega;intros)|(apply zQ;omega;intros)|apply zR);cbv))
  refine BinK.lss ?_ ?_ <;> intro hlt <;> cbv <;> (repeat'((first|(apply zS;kernel_rfl)|(apply zD;decide +kernel)|(apply zE;decide +kernel)|(apply zF;decide +kernel)|(apply zL;decide +kernel)|(apply zM;decide +kernel)|(apply zN;intros)|(apply zO;intros)|(apply zT;omega)|(apply zU;omega)|(apply zP;omega;intros)|(apply zQ;omega;intros)|apply zR);cbv))
  · obtain ⟨t, ht, hK⟩ := hKat i.toNat (by omega)
    obtain ⟨u, hu, hK'⟩ := hKat' i.toNat (by omega)
    have hct := hc t (List.mem_of_getElem? ht) u (List.mem_of_getElem? hu)
    have hpt := ty_pure t
    have hpu := ty_pure u
    have hno : p t u = false → ∀ h', Q (.raw (.bool false)) h' := fun e => q2 fun h => by
      have := (all2_at hl).1 h i.toNat t u ht hu
      rw [e] at this
      cases this
    have hnext : p t u = true → ∀ r : Int, r = i + 1 → ∀ (j : Nat) (t u : Ty5), j < r.toNat → a[j]? = some t → b[j]? = some u → p t u = true := fun e r hr j x y hjr hx hy => by
      by_cases hji : j = i.toNat
      · rw [hji, ht] at hx
        rw [hji, hu] at hy
        cases hx
        cases hy
        exact e
      · exact hj j x y (by omega) hx hy
    generalize p t u = bb at hct hno hnext
    obtain ⟨k0, n0, m0, L0, K0, f0, i0, j0⟩ := c4_node t
    obtain ⟨k1, n1, m1, L1, K1, f1, i1, j1⟩ := c4_node u
    rw [f0] at hct hpt hK
    rw [f1] at hct hpu hK'
    clear f0 f1 hc q2 q3 hj ht hu
    refine IdxK.intro h0 hK ?_
    cbv
    (repeat'((first|(apply zS;kernel_rfl)|(apply zD;decide +kernel)|(apply zE;decide +kernel)|(apply zF;decide +kernel)|(apply zL;decide +kernel)|(apply zM;decide +kernel)|(apply zN;intros)|(apply zO;intros)|(apply zT;omega)|(apply zU;omega)|(apply zP;omega;intros)|(apply zQ;omega;intros)|apply zR);cbv))
    refine IdxK.intro h0 hK' ?_
    cbv
    (repeat'((first|(apply zS;kernel_rfl)|(apply zD;decide +kernel)|(apply zE;decide +kernel)|(apply zF;decide +kernel)|(apply zL;decide +kernel)|(apply zM;decide +kernel)|(apply zN;intros)|(apply zO;intros)|(apply zT;omega)|(apply zU;omega)|(apply zP;omega;intros)|(apply zQ;omega;intros)|apply zR);cbv))
    refine .one hct (cons_pure hpt (cons_pure hpu rfl)) rfl ?_
    rcases bb with _ | _
    · cbv
      (repeat'((first|(apply zS;kernel_rfl)|(apply zD;decide +kernel)|(apply zE;decide +kernel)|(apply zF;decide +kernel)|(apply zL;decide +kernel)|(apply zM;decide +kernel)|(apply zN;intros)|(apply zO;intros)|(apply zT;omega)|(apply zU;omega)|(apply zP;omega;intros)|(apply zQ;omega;intros)|apply zR);cbv))
      exact ⟨hno rfl _⟩
    have hnext := hnext rfl
    cbv
    (repeat'((first|(apply zS;kernel_rfl)|(apply zD;decide +kernel)|(apply zE;decide +kernel)|(apply zF;decide +kernel)|(apply zL;decide +kernel)|(apply zM;decide +kernel)|(apply zN;intros)|(apply zO;intros)|(apply zT;omega)|(apply zU;omega)|(apply zP;omega;intros)|(apply zQ;omega;intros)|apply zR);cbv))
    rename_i r hr
    have hnext := hnext r hr
    refine RoundK.forget r ⟨by omega, by omega, hnext⟩ (by omega) rfl rfl ?_ ?_
    · simp [idbL, idb, hKi, hKi', i0, j0, i1, j1]
    · simp [cellIdb, idbL, idb, hKi, hKi', i0, j0, i1, j1]
  · have hLt : all2 p a b = true := (all2_at hl).2 fun j t u ht hu => hj j t u (by have := (List.getElem?_eq_some_iff.1 ht).1; omega) ht hu
    exact ⟨q3 hLt _⟩
set_option maxRecDepth 20000 in
theorem agreeT_off (f : FuncId) (a b : List Ty5) (hl : a.length ≠ b.length) (Q : D → H → Prop) (hQ : ∀ h', Q (.raw (.bool false)) h') : wfun TT 29 [.sl none 5 (tysD a), .sl none 5 (tysD b), .fn (.func f) [] []] [] Q := by
  have hKl := tys_len a
  have hKl' := tys_len b
  generalize tysD a = KS at hKl ⊢
  generalize tysD b = KS' at hKl' ⊢
  cbv
  (repeat'((first|(apply zS;kernel_rfl)|(apply zD;decide +kernel)|(apply zE;decide +kernel)|(apply zF;decide +kernel)|(apply zL;decide +kernel)|(apply zM;decide +kernel)|(apply zN;intros)|(apply zO;intros)|(apply zT;omega)|(apply zU;omega)|(apply zP;omega;intros)|(apply zQ;omega;intros)|apply zR);cbv))
  exact ⟨hQ _⟩
theorem agreeT_cp (f : FuncId) (p : Ty5 → Ty5 → Bool) (a b : List Ty5) (hks : a.length ≤ 9223372036854775807) (hc : ∀ t ∈ a, ∀ u ∈ b, CP (TT ()) f [tyD t, tyD u] (· = .raw (.bool (p t u)))) :
    CP (TT ()) 29 [.sl none 5 (tysD a), .sl none 5 (tysD b), .fn (.func f) [] []] (· = .raw (.bool (all2 p a b))) := by
  by_cases hl : a.length = b.length
  · exact c4_run (agreeT_run f p a b hl hks hc)
  · have e : all2 p a b = false := by
      rw [Bool.eq_false_iff]
      exact fun h => hl (all2_len h)
    rw [e]
    exact c4_run (agreeT_off f a b hl)
/-- A function that captures nothing, as the code names it. -/
abbrev fnD (f : FuncId) : D := .raw (.func (.func f) #[] #[])
theorem fn_wk (f : FuncId) : Wk (fnD f) (.fn (.func f) [] []) := fun C w v h => by
  simp only [Rd] at h
  subst h
  exact ⟨[], [], rfl, rfl, rfl⟩
theorem agreeF_cp (f : FuncId) (p : Ty5 → Ty5 → Bool) (a b : List Ty5) (hks : a.length ≤ 9223372036854775807) (hc : ∀ t ∈ a, ∀ u ∈ b, CP (TT ()) f [tyD t, tyD u] (· = .raw (.bool (p t u)))) :
    CP (TT ()) 29 [.sl none 5 (tysD a), .sl none 5 (tysD b), fnD f] (· = .raw (.bool (all2 p a b))) :=
  CP.argW (agreeT_cp f p a b hks hc) (.cons (.refl _) (.cons (.refl _) (.cons (fn_wk f) .nil)))
/-! ### Less -/
set_option maxRecDepth 20000 in
set_option maxHeartbeats 4000000 in
theorem pless_run (a b : Ty5) (ha : okT a) (hb : okT b)
    (hc : CP (TT ()) 29 [.sl none 5 (tysD (argsT a)), .sl none 5 (tysD (argsT b)), fnD 28] (· = .raw (.bool (lessL (argsT a) (argsT b))))) (Q : D → H → Prop) (hQ : ∀ h', Q (.raw (.bool (lessT a b))) h') :
    wfun TT 28 [tyD a, tyD b] [] Q := by
  have c1 := punknown_cp _ hb
  have c2 := palike_cp _ _ ha hb
  have pa := ty_pure a
  have pb := ty_pure b
  have q1 : isDyn b = true → ∀ h', Q (.raw (.bool true)) h' := fun h => by rw [less_dyn h] at hQ; exact hQ
  have q2 : isDyn b = false → ∀ h', Q (.raw (.bool (sameT (bareT a) (bareT b) && lessL (argsT a) (argsT b)))) h' := fun h => by
    rw [less_alike h, ← bare_alike] at hQ
    have e : (sameT (bareT a) (bareT b) && (argsT a).length == (argsT b).length && lessL (argsT a) (argsT b)) = (sameT (bareT a) (bareT b) && lessL (argsT a) (argsT b)) := by
      rw [Bool.eq_iff_iff]
      simp only [Bool.and_eq_true, beq_iff_eq]
      exact ⟨fun h => ⟨h.1.1, h.2⟩, fun h => ⟨⟨h.1, lessL_len h.2⟩, h.2⟩⟩
    rwa [e] at hQ
  generalize isDyn b = b1 at c1 q1 q2
  generalize sameT (bareT a) (bareT b) = b2 at c2 q2
  generalize lessL (argsT a) (argsT b) = b3 at hc q2
  obtain ⟨k, n, nm, ls, ks⟩ := a
  obtain ⟨k', n', nm', ls', ks'⟩ := b
  have hKp := tys_pure ks
  have hKp' := tys_pure ks'
  simp only [tyD, argsT] at c1 c2 pa pb hc ⊢
  clear hQ
  generalize ls.map strD = LS at c2 pa ⊢
  generalize ls'.map strD = LS' at c1 c2 pb ⊢
  generalize tysD ks = KS at c2 pa hc hKp ⊢
  generalize tysD ks' = KS' at c1 c2 pb hc hKp' ⊢
  cbv
  (repeat'((first|(apply zS;kernel_rfl)|(apply zD;decide +kernel)|(apply zE;decide +kernel)|(apply zF;decide +kernel)|(apply zL;decide +kernel)|(apply zM;decide +kernel)|(apply zN;intros)|(apply zO;intros)|(apply zT;omega)|(apply zU;omega)|(apply zP;omega;intros)|(apply zQ;omega;intros)|apply zR);cbv))
  refine .one c1 (cons_pure pb rfl) rfl ?_
  rcases b1 with _ | _
  case' true =>
    cbv
    (repeat'((first|(apply zS;kernel_rfl)|(apply zD;decide +kernel)|(apply zE;decide +kernel)|(apply zF;decide +kernel)|(apply zL;decide +kernel)|(apply zM;decide +kernel)|(apply zN;intros)|(apply zO;intros)|(apply zT;omega)|(apply zU;omega)|(apply zP;omega;intros)|(apply zQ;omega;intros)|apply zR);cbv))
    exact ⟨q1 rfl _⟩
  have q2 := q2 rfl
  cbv
  (repeat'((first|(apply zS;kernel_rfl)|(apply zD;decide +kernel)|(apply zE;decide +kernel)|(apply zF;decide +kernel)|(apply zL;decide +kernel)|(apply zM;decide +kernel)|(apply zN;intros)|(apply zO;intros)|(apply zT;omega)|(apply zU;omega)|(apply zP;omega;intros)|(apply zQ;omega;intros)|apply zR);cbv))
  refine .one c2 (cons_pure pa (cons_pure pb rfl)) rfl ?_
  rcases b2 with _ | _
  · cbv
    (repeat'((first|(apply zS;kernel_rfl)|(apply zD;decide +kernel)|(apply zE;decide +kernel)|(apply zF;decide +kernel)|(apply zL;decide +kernel)|(apply zM;decide +kernel)|(apply zN;intros)|(apply zO;intros)|(apply zT;omega)|(apply zU;omega)|(apply zP;omega;intros)|(apply zQ;omega;intros)|apply zR);cbv))
    exact ⟨q2 _⟩
  cbv
  (repeat'((first|(apply zS;kernel_rfl)|(apply zD;decide +kernel)|(apply zE;decide +kernel)|(apply zF;decide +kernel)|(apply zL;decide +kernel)|(apply zM;decide +kernel)|(apply zN;intros)|(apply zO;intros)|(apply zT;omega)|(apply zU;omega)|(apply zP;omega;intros)|(apply zQ;omega;intros)|apply zR);cbv))
  refine .one hc (by simp [pureL, pureD, hKp, hKp']) rfl ?_
  cbv
  (repeat'((first|(apply zS;kernel_rfl)|(apply zD;decide +kernel)|(apply zE;decide +kernel)|(apply zF;decide +kernel)|(apply zL;decide +kernel)|(apply zM;decide +kernel)|(apply zN;intros)|(apply zO;intros)|(apply zT;omega)|(apply zU;omega)|(apply zP;omega;intros)|(apply zQ;omega;intros)|apply zR);cbv))
  exact ⟨q2 _⟩
theorem pless_len : ∀ (a : Ty5), lenT a → okT a → ∀ b, okT b → CP (TT ()) 28 [tyD a, tyD b] (· = .raw (.bool (lessT a b))) := by
  intro a
  induction hz : szT a using Nat.strongRecOn generalizing a with
  | ind z ih =>
    intro hn ha b hb
    refine c4_run fun Q hQ => pless_run a b ha hb ?_ Q hQ
    obtain ⟨k, n, nm, ls, ks⟩ := a
    obtain ⟨k', n', nm', ls', ks'⟩ := b
    obtain ⟨hkn, hks⟩ := lenT_kids hn
    rw [lessL_all]
    show CP _ _ [.sl none 5 (tysD ks), .sl none 5 (tysD ks'), _] _
    refine agreeF_cp _ lessT ks ks' hkn fun t ht u hu => ih (szT t) ?_ t rfl ?_ (okL_get ha.2.2 t ht) u (okL_get hb.2.2 u hu)
    · have := szL_mem ht
      rw [← hz]
      simp only [szT]
      omega
    · exact hks t ht
theorem pless_cp (a : Ty5) (h : nodesT a ≤ 1000000) (ha : okT a) (b : Ty5) (hb : okT b) : CP (TT ()) 28 [tyD a, tyD b] (· = .raw (.bool (lessT a b))) := pless_len a (nodes_lenT a h) ha b hb
/-! ### All -/
set_option maxRecDepth 20000 in
theorem pall_len (a b : List Ty5) (ha : okT.okL a) (hb : okT.okL b) (hk : a.length ≤ 1000000) (hn : ∀ t ∈ a, lenT t) : CP (TT ()) 11 [.sl none 5 (tysD a), .sl none 5 (tysD b)] (· = .raw (.bool (lessL a b))) := by
  have hc := agreeF_cp 28 lessT a b (by omega) fun t ht u hu => pless_len t (hn t ht) (okL_get ha t ht) u (okL_get hb u hu)
  rw [← lessL_all] at hc
  generalize lessL a b = r at hc ⊢
  have hKp := tys_pure a
  have hKp' := tys_pure b
  generalize tysD a = KS at hc hKp ⊢
  generalize tysD b = KS' at hc hKp' ⊢
  refine c4_run fun Q hQ => ?_
  cbv
  (repeat'((first|(apply zS;kernel_rfl)|(apply zD;decide +kernel)|(apply zE;decide +kernel)|(apply zF;decide +kernel)|(apply zL;decide +kernel)|(apply zM;decide +kernel)|(apply zN;intros)|(apply zO;intros)|(apply zT;omega)|(apply zU;omega)|(apply zP;omega;intros)|(apply zQ;omega;intros)|apply zR);cbv))
  refine .one hc (by simp [pureL, pureD, hKp, hKp']) rfl ?_
  cbv
  (repeat'((first|(apply zS;kernel_rfl)|(apply zD;decide +kernel)|(apply zE;decide +kernel)|(apply zF;decide +kernel)|(apply zL;decide +kernel)|(apply zM;decide +kernel)|(apply zN;intros)|(apply zO;intros)|(apply zT;omega)|(apply zU;omega)|(apply zP;omega;intros)|(apply zQ;omega;intros)|apply zR);cbv))
  exact ⟨hQ _⟩
theorem pall_cp (a b : List Ty5) (ha : okT.okL a) (hb : okT.okL b) (hk : a.length ≤ 1000000) (hn : ∀ t ∈ a, nodesT t ≤ 1000000) : CP (TT ()) 11 [.sl none 5 (tysD a), .sl none 5 (tysD b)] (· = .raw (.bool (lessL a b))) := pall_len a b ha hb hk fun t ht => nodes_lenT t (hn t ht)
/-! ### Binds -/
set_option maxRecDepth 20000 in
set_option maxHeartbeats 4000000 in
theorem pbind1_cp (p q : Bd) (hc : CP (TT ()) 28 [tyD p.2, tyD q.2] (· = .raw (.bool (lessT p.2 q.2)))) : CP (TT ()) 32 [bnD p, bnD q] (· = .raw (.bool (lessP p q))) := by
  have hpt := ty_pure p.2
  have hpu := ty_pure q.2
  have h1 : p.1 = q.1 → lessP p q = lessT p.2 q.2 := fun h => by unfold lessP; rw [decide_eq_true h, Bool.true_and]
  have h2 : p.1 ≠ q.1 → lessP p q = false := fun h => by unfold lessP; rw [decide_eq_false h, Bool.false_and]
  generalize lessP p q = r at h1 h2 ⊢
  generalize lessT p.2 q.2 = b at hc h1
  obtain ⟨k0, n0, m0, L0, K0, f0, f0', i0, j0⟩ := bn_node p
  obtain ⟨k1, n1, m1, L1, K1, f1, f1', i1, j1⟩ := bn_node q
  rw [f0'] at hc hpt
  rw [f1'] at hc hpu
  rw [f0, f1]
  generalize p.1 = s1 at h1 h2 ⊢
  generalize q.1 = s2 at h1 h2 ⊢
  clear f0 f1 f0' f1' i0 i1 j0 j1
  refine c4_run fun Q hQ => ?_
  cbv
  (repeat'((first|(apply zS;kernel_rfl)|(apply zD;decide +kernel)|(apply zE;decide +kernel)|(apply zF;decide +kernel)|(apply zL;decide +kernel)|(apply zM;decide +kernel)|(apply zN;intros)|(apply zO;intros)|(apply zT;omega)|(apply zU;omega)|(apply zP;omega;intros)|(apply zQ;omega;intros)|apply zR);cbv))
  refine BinK.seql ?_ ?_ <;> intro hs
  · obtain rfl := h1 hs
    cbv
    (repeat'((first|(apply zS;kernel_rfl)|(apply zD;decide +kernel)|(apply zE;decide +kernel)|(apply zF;decide +kernel)|(apply zL;decide +kernel)|(apply zM;decide +kernel)|(apply zN;intros)|(apply zO;intros)|(apply zT;omega)|(apply zU;omega)|(apply zP;omega;intros)|(apply zQ;omega;intros)|apply zR);cbv))
    refine .one hc (cons_pure hpt (cons_pure hpu rfl)) rfl ?_
    cbv
    (repeat'((first|(apply zS;kernel_rfl)|(apply zD;decide +kernel)|(apply zE;decide +kernel)|(apply zF;decide +kernel)|(apply zL;decide +kernel)|(apply zM;decide +kernel)|(apply zN;intros)|(apply zO;intros)|(apply zT;omega)|(apply zU;omega)|(apply zP;omega;intros)|(apply zQ;omega;intros)|apply zR);cbv))
    exact ⟨hQ _⟩
  · obtain rfl := h2 hs
    cbv
    (repeat'((first|(apply zS;kernel_rfl)|(apply zD;decide +kernel)|(apply zE;decide +kernel)|(apply zF;decide +kernel)|(apply zL;decide +kernel)|(apply zM;decide +kernel)|(apply zN;intros)|(apply zO;intros)|(apply zT;omega)|(apply zU;omega)|(apply zP;omega;intros)|(apply zQ;omega;intros)|apply zR);cbv))
    exact ⟨hQ _⟩
set_option maxRecDepth 20000 in
set_option maxHeartbeats 4000000 in
theorem agreeB_run (f : FuncId) (p : Bd → Bd → Bool) (a b : List Bd) (hl : a.length = b.length) (hks : a.length ≤ 9223372036854775807)
    (hc : ∀ t ∈ a, ∀ u ∈ b, CP (TT ()) f [bnD t, bnD u] (· = .raw (.bool (p t u)))) (Q : D → H → Prop) (hQ : ∀ h', Q (.raw (.bool (all2 p a b))) h') :
    wfun TT 31 [.sl none 6 (bnsD a), .sl none 6 (bnsD b), .fn (.func f) [] []] [] Q := by
  have q2 : all2 p a b ≠ true → ∀ h', Q (.raw (.bool false)) h' := fun h => by rw [Bool.eq_false_iff.2 h] at hQ; exact hQ
  have q3 : all2 p a b = true → ∀ h', Q (.raw (.bool true)) h' := fun h => by rw [h] at hQ; exact hQ
  have hKl := bns_len a
  have hKl' := bns_len b
  have hKi := bns_idb a
  have hKi' := bns_idb b
  have hKat := fun i => bns_at (m := a) (i := i)
  have hKat' := fun i => bns_at (m := b) (i := i)
  clear hQ
  generalize bnsD a = KS at hKl hKi hKat ⊢
  generalize bnsD b = KS' at hKl' hKi' hKat' ⊢
  cbv
  (repeat'((first|(apply zS;kernel_rfl)|(apply zD;decide +kernel)|(apply zE;decide +kernel)|(apply zF;decide +kernel)|(apply zL;decide +kernel)|(apply zM;decide +kernel)|(apply zN;intros)|(apply zO;intros)|(apply zT;omega)|(apply zU;omega)|(apply zP;omega;intros)|(apply zQ;omega;intros)|apply zR);cbv))
  refine LoopK.put (X := Int) (fun x => [(16, .raw (.int .i64 x))]) (fun _ => []) (fun x => a.length - x.toNat) (fun x => 0 ≤ x ∧ x.toNat ≤ a.length ∧ ∀ (j : Nat) (t u : Bd), j < x.toNat → a[j]? = some t → b[j]? = some u → p t u = true) 0 ⟨by simp, by simp, fun j t u hj => absurd hj (Nat.not_lt_zero _)⟩ rfl rfl ?_
  rintro i N ⟨h0, hi, hj⟩ hN
  simp only at h0 hi hj hN ⊢
  cbv
  (repeat'((first|(apply zS;kernel_rfl)|(apply zD;decide +kernel)|(apply zE;decide +kernel)|(apply zF;decide +kernel)|(apply zL;decide +kernel)|(apply zM;decide +kernel)|(apply zN;intros)|(apply zO;intros)|(apply zT;omega)|(apply zU;omega)|(apply zP;omega;intros)|(apply zQ;omega;intros)|apply zR);cbv))
  refine BinK.lss ?_ ?_ <;> intro hlt <;> cbv <;> (repeat'((first|(apply zS;kernel_rfl)|(apply zD;decide +kernel)|(apply zE;decide +kernel)|(apply zF;decide +kernel)|(apply zL;decide +kernel)|(apply zM;decide +kernel)|(apply zN;intros)|(apply zO;intros)|(apply zT;omega)|(apply zU;omega)|(apply zP;omega;intros)|(apply zQ;omega;intros)|apply zR);cbv))
  · obtain ⟨t, ht, hK⟩ := hKat i.toNat (by omega)
    obtain ⟨u, hu, hK'⟩ := hKat' i.toNat (by omega)
    have hct := hc t (List.mem_of_getElem? ht) u (List.mem_of_getElem? hu)
    have hpt := bn_pure t
    have hpu := bn_pure u
    have hno : p t u = false → ∀ h', Q (.raw (.bool false)) h' := fun e => q2 fun h => by
      have := (all2_at hl).1 h i.toNat t u ht hu
      rw [e] at this
      cases this
    have hnext : p t u = true → ∀ r : Int, r = i + 1 → ∀ (j : Nat) (t u : Bd), j < r.toNat → a[j]? = some t → b[j]? = some u → p t u = true := fun e r hr j x y hjr hx hy => by
      by_cases hji : j = i.toNat
      · rw [hji, ht] at hx
        rw [hji, hu] at hy
        cases hx
        cases hy
        exact e
      · exact hj j x y (by omega) hx hy
    generalize p t u = bb at hct hno hnext
    obtain ⟨k0, n0, m0, L0, K0, f0, f0', i0, j0⟩ := bn_node t
    obtain ⟨k1, n1, m1, L1, K1, f1, f1', i1, j1⟩ := bn_node u
    rw [f0] at hct hpt hK
    rw [f1] at hct hpu hK'
    generalize t.1 = s1 at hct hpt hK
    generalize u.1 = s2 at hct hpu hK'
    clear f0 f1 f0' f1' hc q2 q3 hj ht hu
    refine IdxK.intro h0 hK ?_
    cbv
    (repeat'((first|(apply zS;kernel_rfl)|(apply zD;decide +kernel)|(apply zE;decide +kernel)|(apply zF;decide +kernel)|(apply zL;decide +kernel)|(apply zM;decide +kernel)|(apply zN;intros)|(apply zO;intros)|(apply zT;omega)|(apply zU;omega)|(apply zP;omega;intros)|(apply zQ;omega;intros)|apply zR);cbv))
    refine IdxK.intro h0 hK' ?_
    cbv
    (repeat'((first|(apply zS;kernel_rfl)|(apply zD;decide +kernel)|(apply zE;decide +kernel)|(apply zF;decide +kernel)|(apply zL;decide +kernel)|(apply zM;decide +kernel)|(apply zN;intros)|(apply zO;intros)|(apply zT;omega)|(apply zU;omega)|(apply zP;omega;intros)|(apply zQ;omega;intros)|apply zR);cbv))
    refine .one hct (cons_pure hpt (cons_pure hpu rfl)) rfl ?_
    rcases bb with _ | _
    · cbv
      (repeat'((first|(apply zS;kernel_rfl)|(apply zD;decide +kernel)|(apply zE;decide +kernel)|(apply zF;decide +kernel)|(apply zL;decide +kernel)|(apply zM;decide +kernel)|(apply zN;intros)|(apply zO;intros)|(apply zT;omega)|(apply zU;omega)|(apply zP;omega;intros)|(apply zQ;omega;intros)|apply zR);cbv))
      exact ⟨hno rfl _⟩
    have hnext := hnext rfl
    cbv
    (repeat'((first|(apply zS;kernel_rfl)|(apply zD;decide +kernel)|(apply zE;decide +kernel)|(apply zF;decide +kernel)|(apply zL;decide +kernel)|(apply zM;decide +kernel)|(apply zN;intros)|(apply zO;intros)|(apply zT;omega)|(apply zU;omega)|(apply zP;omega;intros)|(apply zQ;omega;intros)|apply zR);cbv))
    rename_i r hr
    have hnext := hnext r hr
    refine RoundK.forget r ⟨by omega, by omega, hnext⟩ (by omega) rfl rfl ?_ ?_
    · simp [idbL, idb, hKi, hKi', i0, j0, i1, j1]
    · simp [cellIdb, idbL, idb, hKi, hKi', i0, j0, i1, j1]
  · have hLt : all2 p a b = true := (all2_at hl).2 fun j t u ht hu => hj j t u (by have := (List.getElem?_eq_some_iff.1 ht).1; omega) ht hu
    exact ⟨q3 hLt _⟩
set_option maxRecDepth 20000 in
theorem agreeB_off (f : FuncId) (a b : List Bd) (hl : a.length ≠ b.length) (Q : D → H → Prop) (hQ : ∀ h', Q (.raw (.bool false)) h') : wfun TT 31 [.sl none 6 (bnsD a), .sl none 6 (bnsD b), .fn (.func f) [] []] [] Q := by
  have hKl := bns_len a
  have hKl' := bns_len b
  generalize bnsD a = KS at hKl ⊢
  generalize bnsD b = KS' at hKl' ⊢
  cbv
  (repeat'((first|(apply zS;kernel_rfl)|(apply zD;decide +kernel)|(apply zE;decide +kernel)|(apply zF;decide +kernel)|(apply zL;decide +kernel)|(apply zM;decide +kernel)|(apply zN;intros)|(apply zO;intros)|(apply zT;omega)|(apply zU;omega)|(apply zP;omega;intros)|(apply zQ;omega;intros)|apply zR);cbv))
  exact ⟨hQ _⟩
theorem agreeB_cp (f : FuncId) (p : Bd → Bd → Bool) (a b : List Bd) (hks : a.length ≤ 9223372036854775807) (hc : ∀ t ∈ a, ∀ u ∈ b, CP (TT ()) f [bnD t, bnD u] (· = .raw (.bool (p t u)))) :
    CP (TT ()) 31 [.sl none 6 (bnsD a), .sl none 6 (bnsD b), fnD f] (· = .raw (.bool (all2 p a b))) := by
  refine CP.argW (es := [.sl none 6 (bnsD a), .sl none 6 (bnsD b), .fn (.func f) [] []]) ?_ (.cons (.refl _) (.cons (.refl _) (.cons (fn_wk f) .nil)))
  by_cases hl : a.length = b.length
  · exact c4_run (agreeB_run f p a b hl hks hc)
  · have e : all2 p a b = false := by
      rw [Bool.eq_false_iff]
      exact fun h => hl (all2_len h)
    rw [e]
    exact c4_run (agreeB_off f a b hl)
set_option maxRecDepth 20000 in
theorem pbinds_len (a b : List Bd) (ha : okB a) (hb : okB b) (hk : a.length ≤ 1000000) (hn : ∀ t ∈ a, lenT t.2) : CP (TT ()) 13 [.sl none 6 (bnsD a), .sl none 6 (bnsD b)] (· = .raw (.bool (lessB a b))) := by
  have hc := agreeB_cp 32 lessP a b (by omega) fun t ht u hu => pbind1_cp t u (pless_len t.2 (hn t ht) (ha t ht).2 u.2 (hb u hu).2)
  rw [← lessB_all] at hc
  generalize lessB a b = r at hc ⊢
  have hKp := bns_pure a
  have hKp' := bns_pure b
  generalize bnsD a = KS at hc hKp ⊢
  generalize bnsD b = KS' at hc hKp' ⊢
  refine c4_run fun Q hQ => ?_
  cbv
  (repeat'((first|(apply zS;kernel_rfl)|(apply zD;decide +kernel)|(apply zE;decide +kernel)|(apply zF;decide +kernel)|(apply zL;decide +kernel)|(apply zM;decide +kernel)|(apply zN;intros)|(apply zO;intros)|(apply zT;omega)|(apply zU;omega)|(apply zP;omega;intros)|(apply zQ;omega;intros)|apply zR);cbv))
  refine .one hc (by simp [pureL, pureD, hKp, hKp']) rfl ?_
  cbv
  (repeat'((first|(apply zS;kernel_rfl)|(apply zD;decide +kernel)|(apply zE;decide +kernel)|(apply zF;decide +kernel)|(apply zL;decide +kernel)|(apply zM;decide +kernel)|(apply zN;intros)|(apply zO;intros)|(apply zT;omega)|(apply zU;omega)|(apply zP;omega;intros)|(apply zQ;omega;intros)|apply zR);cbv))
  exact ⟨hQ _⟩
theorem pbinds_cp (a b : List Bd) (ha : okB a) (hb : okB b) (hk : a.length ≤ 1000000) (hn : ∀ t ∈ a, nodesT t.2 ≤ 1000000) : CP (TT ()) 13 [.sl none 6 (bnsD a), .sl none 6 (bnsD b)] (· = .raw (.bool (lessB a b))) := pbinds_len a b ha hb hk fun t ht => nodes_lenT t.2 (hn t ht)
end Go.Proofs.Ytllehceckdcbaaa

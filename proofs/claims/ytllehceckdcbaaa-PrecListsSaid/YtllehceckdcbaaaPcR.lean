/- limbeckref08: the document's own answers on precision. -/
import Derived.Test.YtllehceckdcbaaaTyLn
import Derived.Test.YtllehceckdcbaaaPcM
import Derived.Test.YtllehceckdcbaaaPwC4
import Derived.Test.YtllehceckdcbaaaPwBd
namespace Go.Proofs.Ytllehceckdcbaaa
open Go.RowKit Pv
theorem dynT_ok : okT dynT := ⟨by decide, fun s h => (by cases h), trivial⟩
theorem dyn4_cp : CP (TT ()) 25 [] (· = tyD dynT) := by
  refine c4_runW (ty_pure _) fun Q hQ => ?_
  have hQ : ∀ h', Q (.agg [.raw (.int .i64 5), .raw (.int .i64 0), .raw (.string ⟨#[]⟩), .raw (.slice none 0 0), .raw (.slice none 0 0)]) h' := fun h' => hQ _ h' (.agg (.cons (.refl _) (.cons (.refl _) (.cons (.refl _) (.cons (nil_any 1) (.cons (nil_any 5) .nil))))))
  cbv
  (repeat'((first|(apply zS;kernel_rfl)|(apply zD;decide +kernel)|(apply zE;decide +kernel)|(apply zF;decide +kernel)|(apply zL;decide +kernel)|(apply zM;decide +kernel)|(apply zN;intros)|(apply zO;intros)|(apply zT;omega)|(apply zU;omega)|(apply zP;omega;intros)|(apply zQ;omega;intros)|apply zR);cbv))
  exact ⟨hQ _⟩
set_option maxRecDepth 20000 in
theorem rdyn_cp (t : Ty5) (ho : okT t) : CP (TT ()) 42 [tyD t] (· = .raw (.bool (isDyn t))) := by
  have c1 := dyn4_cp
  have c2 : CP (TT ()) 9 [tyD t, tyD dynT] (· = .raw (.bool (isDyn t))) := sameq_cp t dynT ho dynT_ok
  have hp := ty_pure t
  have hd := ty_pure dynT
  generalize isDyn t = b at c2 ⊢
  obtain ⟨k, n, nm, L, K, f0, _, _⟩ := c4_node t
  obtain ⟨k', n', nm', L', K', f1, _, _⟩ := c4_node dynT
  rw [f0] at c2 hp ⊢
  rw [f1] at c1 c2 hd
  refine c4_run fun Q hQ => ?_
  cbv
  (repeat'((first|(apply zS;kernel_rfl)|(apply zD;decide +kernel)|(apply zE;decide +kernel)|(apply zF;decide +kernel)|(apply zL;decide +kernel)|(apply zM;decide +kernel)|(apply zN;intros)|(apply zO;intros)|(apply zT;omega)|(apply zU;omega)|(apply zP;omega;intros)|(apply zQ;omega;intros)|apply zR);cbv))
  refine .one c1 rfl hd ?_
  cbv
  (repeat'((first|(apply zS;kernel_rfl)|(apply zD;decide +kernel)|(apply zE;decide +kernel)|(apply zF;decide +kernel)|(apply zL;decide +kernel)|(apply zM;decide +kernel)|(apply zN;intros)|(apply zO;intros)|(apply zT;omega)|(apply zU;omega)|(apply zP;omega;intros)|(apply zQ;omega;intros)|apply zR);cbv))
  refine .one c2 (cons_pure hp (cons_pure hd rfl)) rfl ?_
  cbv
  (repeat'((first|(apply zS;kernel_rfl)|(apply zD;decide +kernel)|(apply zE;decide +kernel)|(apply zF;decide +kernel)|(apply zL;decide +kernel)|(apply zM;decide +kernel)|(apply zN;intros)|(apply zO;intros)|(apply zT;omega)|(apply zU;omega)|(apply zP;omega;intros)|(apply zQ;omega;intros)|apply zR);cbv))
  exact ⟨hQ _⟩
theorem sameS_cp (a b : List ByteArray) (ha : ∀ u ∈ a, u.size ≤ maxLen) (hb : ∀ u ∈ b, u.size ≤ maxLen) : CP (TT ()) 24 [.sl none 1 (a.map strD), .sl none 1 (b.map strD)] (· = .raw (.bool (eqL a b))) :=
  cp_raw (callable_at Try.func24 (by kernel_rfl) rfl) fun S w args r => by
    obtain ⟨v, v', rfl, h, h'⟩ := rdL_two r
    exact rsameS_any v v' a b w (strs_in h ha) (strs_in h' hb)
set_option maxRecDepth 20000 in
set_option maxHeartbeats 4000000 in
theorem ralike_cp (a b : Ty5) (ha : okT a) (hb : okT b) : CP (TT ()) 43 [tyD a, tyD b] (· = .raw (.bool (alikeT a b))) := by
  obtain ⟨k, n, nm, ls, ks⟩ := a
  obtain ⟨k', n', nm', ls', ks'⟩ := b
  have c := sameS_cp ls ls' ha.2.1 hb.2.1
  have hlp := strs_pure ls
  have hlp' := strs_pure ls'
  have hyes : k = k' → n = n' → nm = nm' → eqL ls ls' = true → ks.length = ks'.length → alikeT (.mk k n nm ls ks) (.mk k' n' nm' ls' ks') = true := fun h1 h2 h3 h4 h5 => alike_iff.2 ⟨h1, h2, h3, eqL_eq h4, h5⟩
  have hno : ¬ (k = k' ∧ n = n' ∧ nm = nm' ∧ eqL ls ls' = true ∧ ks.length = ks'.length) → alikeT (.mk k n nm ls ks) (.mk k' n' nm' ls' ks') = false := fun h => by
    rw [Bool.eq_false_iff]
    intro e
    obtain ⟨h1, h2, h3, rfl, h5⟩ := alike_iff.1 e
    exact h ⟨h1, h2, h3, eqL_refl _, h5⟩
  generalize alikeT (.mk k n nm ls ks) (.mk k' n' nm' ls' ks') = r at hyes hno ⊢
  generalize eqL ls ls' = e at c hyes hno
  simp only [tyD]
  have hKl := tys_len ks
  have hKl' := tys_len ks'
  generalize ls.map strD = LS at c hlp ⊢
  generalize ls'.map strD = LS' at c hlp' ⊢
  generalize tysD ks = KS at hKl ⊢
  generalize tysD ks' = KS' at hKl' ⊢
  refine c4_run fun Q hQ => ?_
  have hQ0 : ¬ (k = k' ∧ n = n' ∧ nm = nm' ∧ e = true ∧ ks.length = ks'.length) → ∀ h', Q (.raw (.bool false)) h' := fun h => by rw [hno h] at hQ; exact hQ
  have hQ1 : k = k' → n = n' → nm = nm' → e = true → ks.length = ks'.length → ∀ h', Q (.raw (.bool true)) h' := fun h1 h2 h3 h4 h5 => by rw [hyes h1 h2 h3 h4 h5] at hQ; exact hQ
  clear hQ hyes hno
  cbv
  (repeat'((first|(apply zS;kernel_rfl)|(apply zD;decide +kernel)|(apply zE;decide +kernel)|(apply zF;decide +kernel)|(apply zL;decide +kernel)|(apply zM;decide +kernel)|(apply zN;intros)|(apply zO;intros)|(apply zT;omega)|(apply zU;omega)|(apply zP;omega;intros)|(apply zQ;omega;intros)|apply zR);cbv))
  refine BinK.eql ?_ ?_ <;> intro h1 <;> cbv <;> (repeat'((first|(apply zS;kernel_rfl)|(apply zD;decide +kernel)|(apply zE;decide +kernel)|(apply zF;decide +kernel)|(apply zL;decide +kernel)|(apply zM;decide +kernel)|(apply zN;intros)|(apply zO;intros)|(apply zT;omega)|(apply zU;omega)|(apply zP;omega;intros)|(apply zQ;omega;intros)|apply zR);cbv))
  case' refine_2 => exact ⟨hQ0 (fun h => h1 h.1) _⟩
  refine BinK.eql ?_ ?_ <;> intro h2 <;> cbv <;> (repeat'((first|(apply zS;kernel_rfl)|(apply zD;decide +kernel)|(apply zE;decide +kernel)|(apply zF;decide +kernel)|(apply zL;decide +kernel)|(apply zM;decide +kernel)|(apply zN;intros)|(apply zO;intros)|(apply zT;omega)|(apply zU;omega)|(apply zP;omega;intros)|(apply zQ;omega;intros)|apply zR);cbv))
  case' refine_2 => exact ⟨hQ0 (fun h => h2 h.2.1) _⟩
  refine BinK.seql ?_ ?_ <;> intro h3 <;> cbv <;> (repeat'((first|(apply zS;kernel_rfl)|(apply zD;decide +kernel)|(apply zE;decide +kernel)|(apply zF;decide +kernel)|(apply zL;decide +kernel)|(apply zM;decide +kernel)|(apply zN;intros)|(apply zO;intros)|(apply zT;omega)|(apply zU;omega)|(apply zP;omega;intros)|(apply zQ;omega;intros)|apply zR);cbv))
  case' refine_2 => exact ⟨hQ0 (fun h => h3 h.2.2.1) _⟩
  refine .one c (by simp [pureL, pureD, hlp, hlp']) rfl ?_
  rcases e with _ | _
  · cbv
    (repeat'((first|(apply zS;kernel_rfl)|(apply zD;decide +kernel)|(apply zE;decide +kernel)|(apply zF;decide +kernel)|(apply zL;decide +kernel)|(apply zM;decide +kernel)|(apply zN;intros)|(apply zO;intros)|(apply zT;omega)|(apply zU;omega)|(apply zP;omega;intros)|(apply zQ;omega;intros)|apply zR);cbv))
    exact ⟨hQ0 (fun h => by cases h.2.2.2.1) _⟩
  cbv
  (repeat'((first|(apply zS;kernel_rfl)|(apply zD;decide +kernel)|(apply zE;decide +kernel)|(apply zF;decide +kernel)|(apply zL;decide +kernel)|(apply zM;decide +kernel)|(apply zN;intros)|(apply zO;intros)|(apply zT;omega)|(apply zU;omega)|(apply zP;omega;intros)|(apply zQ;omega;intros)|apply zR);cbv))
  refine BinK.eql ?_ ?_ <;> intro h5 <;> cbv <;> (repeat'((first|(apply zS;kernel_rfl)|(apply zD;decide +kernel)|(apply zE;decide +kernel)|(apply zF;decide +kernel)|(apply zL;decide +kernel)|(apply zM;decide +kernel)|(apply zN;intros)|(apply zO;intros)|(apply zT;omega)|(apply zU;omega)|(apply zP;omega;intros)|(apply zQ;omega;intros)|apply zR);cbv))
  · exact ⟨hQ1 h1 h2 h3 rfl (by omega) _⟩
  · exact ⟨hQ0 (fun h => by omega) _⟩
set_option maxRecDepth 20000 in
set_option maxHeartbeats 4000000 in
theorem rless_run (k n : Int) (nm : ByteArray) (ls : List ByteArray) (ks : List Ty5) (k' n' : Int) (nm' : ByteArray) (ls' : List ByteArray) (ks' : List Ty5) (ha : okT (.mk k n nm ls ks)) (hb : okT (.mk k' n' nm' ls' ks')) (hks : ks.length ≤ 9223372036854775807)
    (hc : ∀ t ∈ ks, ∀ u ∈ ks', CP (TT ()) 30 [tyD t, tyD u] (· = .raw (.bool (lessT t u)))) (Q : D → H → Prop) (hQ : ∀ h', Q (.raw (.bool (lessT (.mk k n nm ls ks) (.mk k' n' nm' ls' ks')))) h') :
    wfun TT 30 [tyD (.mk k n nm ls ks), tyD (.mk k' n' nm' ls' ks')] [] Q := by
  have c1 := rdyn_cp _ hb
  have c2 := ralike_cp _ _ ha hb
  have pa := ty_pure (.mk k n nm ls ks)
  have pb := ty_pure (.mk k' n' nm' ls' ks')
  have q1 : isDyn (.mk k' n' nm' ls' ks') = true → ∀ h', Q (.raw (.bool true)) h' := fun h => by rw [less_dyn h] at hQ; exact hQ
  have q2 : isDyn (.mk k' n' nm' ls' ks') = false → ¬ (alikeT (.mk k n nm ls ks) (.mk k' n' nm' ls' ks') = true ∧ lessL ks ks' = true) → ∀ h', Q (.raw (.bool false)) h' := fun h g => by
    rw [less_alike h, show (alikeT (.mk k n nm ls ks) (.mk k' n' nm' ls' ks') && lessL (argsT (.mk k n nm ls ks)) (argsT (.mk k' n' nm' ls' ks'))) = false by
      rw [Bool.eq_false_iff, Ne, Bool.and_eq_true]
      exact g] at hQ
    exact hQ
  have q3 : isDyn (.mk k' n' nm' ls' ks') = false → alikeT (.mk k n nm ls ks) (.mk k' n' nm' ls' ks') = true → lessL ks ks' = true → ∀ h', Q (.raw (.bool true)) h' := fun h g l => by
    rw [less_alike h, g, show argsT (.mk k n nm ls ks) = ks from rfl, show argsT (.mk k' n' nm' ls' ks') = ks' from rfl, l] at hQ
    exact hQ
  have hlen : alikeT (.mk k n nm ls ks) (.mk k' n' nm' ls' ks') = true → ks.length = ks'.length := fun h => (alike_iff.1 h).2.2.2.2
  generalize isDyn (.mk k' n' nm' ls' ks') = b1 at c1 q1 q2 q3
  generalize alikeT (.mk k n nm ls ks) (.mk k' n' nm' ls' ks') = b2 at c2 q2 q3 hlen
  simp only [tyD] at c1 c2 pa pb ⊢
  have hKl := tys_len ks
  have hKl' := tys_len ks'
  have hKi := tys_idb ks
  have hKi' := tys_idb ks'
  have hKat := fun i => tys_at (ks := ks) (i := i)
  have hKat' := fun i => tys_at (ks := ks') (i := i)
  have hLi := strs_idb ls
  have hLi' := strs_idb ls'
  clear hQ
  generalize ls.map strD = LS at c1 c2 pa hLi ⊢
  generalize ls'.map strD = LS' at c1 c2 pb hLi' ⊢
  generalize tysD ks = KS at c2 pa hKl hKi hKat ⊢
  generalize tysD ks' = KS' at c1 c2 pb hKl' hKi' hKat' ⊢
  cbv
  (repeat'((first|(apply zS;kernel_rfl)|(apply zD;decide +kernel)|(apply zE;decide +kernel)|(apply zF;decide +kernel)|(apply zL;decide +kernel)|(apply zM;decide +kernel)|(apply zN;intros)|(apply zO;intros)|(apply zT;omega)|(apply zU;omega)|(apply zP;omega;intros)|(apply zQ;omega;intros)|apply zR);cbv))
  refine .one c1 (cons_pure pb rfl) rfl ?_
  rcases b1 with _ | _
  case' true =>
    cbv
    (repeat'((first|(apply zS;kernel_rfl)|(apply zD;decide +kernel)|(apply zE;decide +kernel)|(apply zF;decide +kernel)|(apply zL;decide +kernel)|(apply zM;decide +kernel)|(apply zN;intros)|(apply zO;intros)|(apply zT;omega)|(apply zU;omega)|(apply zP;omega;intros)|(apply zQ;omega;intros)|apply zR);cbv))
    exact ⟨q1 rfl _⟩
  cbv
  (repeat'((first|(apply zS;kernel_rfl)|(apply zD;decide +kernel)|(apply zE;decide +kernel)|(apply zF;decide +kernel)|(apply zL;decide +kernel)|(apply zM;decide +kernel)|(apply zN;intros)|(apply zO;intros)|(apply zT;omega)|(apply zU;omega)|(apply zP;omega;intros)|(apply zQ;omega;intros)|apply zR);cbv))
  refine .one c2 (cons_pure pa (cons_pure pb rfl)) rfl ?_
  rcases b2 with _ | _
  · cbv
    (repeat'((first|(apply zS;kernel_rfl)|(apply zD;decide +kernel)|(apply zE;decide +kernel)|(apply zF;decide +kernel)|(apply zL;decide +kernel)|(apply zM;decide +kernel)|(apply zN;intros)|(apply zO;intros)|(apply zT;omega)|(apply zU;omega)|(apply zP;omega;intros)|(apply zQ;omega;intros)|apply zR);cbv))
    exact ⟨q2 rfl (fun h => by cases h.1) _⟩
  have hl := hlen rfl
  have q2 : lessL ks ks' ≠ true → ∀ h', Q (.raw (.bool false)) h' := fun h => q2 rfl fun g => h g.2
  have q3 := q3 rfl rfl
  cbv
  (repeat'((first|(apply zS;kernel_rfl)|(apply zD;decide +kernel)|(apply zE;decide +kernel)|(apply zF;decide +kernel)|(apply zL;decide +kernel)|(apply zM;decide +kernel)|(apply zN;intros)|(apply zO;intros)|(apply zT;omega)|(apply zU;omega)|(apply zP;omega;intros)|(apply zQ;omega;intros)|apply zR);cbv))
  refine LoopK.put (X := Int) (fun x => [(5, .raw (.int .i64 x))]) (fun _ => []) (fun x => ks.length - x.toNat) (fun x => 0 ≤ x ∧ x.toNat ≤ ks.length ∧ ∀ (j : Nat) (t u : Ty5), j < x.toNat → ks[j]? = some t → ks'[j]? = some u → lessT t u = true) 0 ⟨by simp, by simp, fun j t u hj => absurd hj (Nat.not_lt_zero _)⟩ rfl rfl ?_
  rintro i N ⟨h0, hi, hj⟩ hN
  simp only at h0 hi hj hN ⊢
  cbv
  (repeat'((first|(apply zS;kernel_rfl)|(apply zD;decide +kernel)|(apply zE;decide +kernel)|(apply zF;decide +kernel)|(apply zL;decide +kernel)|(apply zM;decide +kernel)|(apply zN;intros)|(apply zO;intros)|(apply zT;omega)|(apply zU;omega)|(apply zP;omega;intros)|(apply zQ;omega;intros)|apply zR);cbv))
  refine BinK.lss ?_ ?_ <;> intro hlt <;> cbv <;> (repeat'((first|(apply zS;kernel_rfl)|(apply zD;decide +kernel)|(apply zE;decide +kernel)|(apply zF;decide +kernel)|(apply zL;decide +kernel)|(apply zM;decide +kernel)|(apply zN;intros)|(apply zO;intros)|(apply zT;omega)|(apply zU;omega)|(apply zP;omega;intros)|(apply zQ;omega;intros)|apply zR);cbv))
  · obtain ⟨t, ht, hK⟩ := hKat i.toNat (by omega)
    obtain ⟨u, hu, hK'⟩ := hKat' i.toNat (by omega)
    have hct := hc t (List.mem_of_getElem? ht) u (List.mem_of_getElem? hu)
    have hpt := ty_pure t
    have hpu := ty_pure u
    have hno : lessT t u = false → ∀ h', Q (.raw (.bool false)) h' := fun e => q2 fun h => by
      have := (lessL_at hl).1 h i.toNat t u ht hu
      rw [e] at this
      cases this
    have hnext : lessT t u = true → ∀ r : Int, r = i + 1 → ∀ (j : Nat) (t u : Ty5), j < r.toNat → ks[j]? = some t → ks'[j]? = some u → lessT t u = true := fun e r hr j x y hjr hx hy => by
      by_cases hji : j = i.toNat
      · rw [hji, ht] at hx
        rw [hji, hu] at hy
        cases hx
        cases hy
        exact e
      · exact hj j x y (by omega) hx hy
    generalize lessT t u = bb at hct hno hnext
    obtain ⟨k0, n0, m0, L0, K0, f0, i0, j0⟩ := c4_node t
    obtain ⟨k1, n1, m1, L1, K1, f1, i1, j1⟩ := c4_node u
    clear i0 j0 i1 j1
    rw [f0] at hct hpt hK
    rw [f1] at hct hpu hK'
    clear f0 f1 hc q1 q2 q3 hj ht hu
    refine IdxK.intro h0 hK ?_
    cbv
    (repeat'((first|(apply zS;kernel_rfl)|(apply zD;decide +kernel)|(apply zE;decide +kernel)|(apply zF;decide +kernel)|(apply zL;decide +kernel)|(apply zM;decide +kernel)|(apply zN;intros)|(apply zO;intros)|(apply zT;omega)|(apply zU;omega)|(apply zP;omega;intros)|(apply zQ;omega;intros)|apply zR);cbv))
    refine IdxK.intro h0 hK' ?_
    cbv
    (repeat'((first|(apply zS;kernel_rfl)|(apply zD;decide +kernel)|(apply zE;decide +kernel)|(apply zF;decide +kernel)|(apply zL;decide +kernel)|(apply zM;decide +kernel)|(apply zN;intros)|(apply zO;intros)|(apply zT;omega)|(apply zU;omega)|(apply zP;omega;intros)|(apply zQ;omega;intros)|apply zR);cbv))
    refine .one hct (cons_pure hpt (cons_pure hpu rfl)) rfl ?_
    rcases bb with _ | _
    · cbv
      (repeat'((first|(apply zS;kernel_rfl)|(apply zD;decide +kernel)|(apply zE;decide +kernel)|(apply zF;decide +kernel)|(apply zL;decide +kernel)|(apply zM;decide +kernel)|(apply zN;intros)|(apply zO;intros)|(apply zT;omega)|(apply zU;omega)|(apply zP;omega;intros)|(apply zQ;omega;intros)|apply zR);cbv))
      exact ⟨hno rfl _⟩
    have hnext := hnext rfl
    cbv
    (repeat'((first|(apply zS;kernel_rfl)|(apply zD;decide +kernel)|(apply zE;decide +kernel)|(apply zF;decide +kernel)|(apply zL;decide +kernel)|(apply zM;decide +kernel)|(apply zN;intros)|(apply zO;intros)|(apply zT;omega)|(apply zU;omega)|(apply zP;omega;intros)|(apply zQ;omega;intros)|apply zR);cbv))
    rename_i r hr
    have hnext := hnext r hr
    refine RoundK.next r ⟨by omega, by omega, hnext⟩ (by omega) rfl rfl
  · have hLt : lessL ks ks' = true := (lessL_at hl).2 fun j t u ht hu => hj j t u (by have := (List.getElem?_eq_some_iff.1 ht).1; omega) ht hu
    exact ⟨q3 hLt _⟩
theorem rless_len : ∀ (a : Ty5), lenT a → okT a → ∀ b, okT b → CP (TT ()) 30 [tyD a, tyD b] (· = .raw (.bool (lessT a b))) := by
  intro a
  induction hz : szT a using Nat.strongRecOn generalizing a with
  | ind z ih =>
    obtain ⟨k, n, nm, ls, ks⟩ := a
    intro hn ha b hb
    obtain ⟨k', n', nm', ls', ks'⟩ := b
    obtain ⟨hkn, hks⟩ := lenT_kids hn
    refine c4_run fun Q hQ => rless_run k n nm ls ks k' n' nm' ls' ks' ha hb hkn (fun t ht u hu => ih (szT t) ?_ t rfl ?_ (okL_get ha.2.2 t ht) u (okL_get hb.2.2 u hu)) Q hQ
    · have := szL_mem ht
      rw [← hz]
      simp only [szT]
      omega
    · exact hks t ht
theorem rless_cp (a : Ty5) (h : nodesT a ≤ 1000000) (ha : okT a) (b : Ty5) (hb : okT b) : CP (TT ()) 30 [tyD a, tyD b] (· = .raw (.bool (lessT a b))) := rless_len a (nodes_lenT a h) ha b hb
/-! ### All -/
set_option maxRecDepth 20000 in
set_option maxHeartbeats 4000000 in
theorem rallL_run (a b : List Ty5) (hl : a.length = b.length) (hks : a.length ≤ 9223372036854775807)
    (hc : ∀ t ∈ a, ∀ u ∈ b, CP (TT ()) 30 [tyD t, tyD u] (· = .raw (.bool (lessT t u)))) (Q : D → H → Prop) (hQ : ∀ h', Q (.raw (.bool (lessL a b))) h') :
    wfun TT 12 [.sl none 5 (tysD a), .sl none 5 (tysD b)] [] Q := by
  have q2 : lessL a b ≠ true → ∀ h', Q (.raw (.bool false)) h' := fun h => by rw [Bool.eq_false_iff.2 h] at hQ; exact hQ
  have q3 : lessL a b = true → ∀ h', Q (.raw (.bool true)) h' := fun h => by rw [h] at hQ; exact hQ
  have hKl := tys_len a
  have hKl' := tys_len b
  have hKi := tys_idb a
  have hKi' := tys_idb b
  have hKat := fun i => tys_at (ks := a) (i := i)
  have hKat' := fun i => tys_at (ks := b) (i := i)
  clear hQ
  generalize tysD a = KS at hKl hKi hKat ⊢
  generalize tysD b = KS' at hKl' hKi' hKat' ⊢
  cbv
  (repeat'((first|(apply zS;kernel_rfl)|(apply zD;decide +kernel)|(apply zE;decide +kernel)|(apply zF;decide +kernel)|(apply zL;decide +kernel)|(apply zM;decide +kernel)|(apply zN;intros)|(apply zO;intros)|(apply zT;omega)|(apply zU;omega)|(apply zP;omega;intros)|(apply zQ;omega;intros)|apply zR);cbv))
  refine LoopK.put (X := Int) (fun x => [(5, .raw (.int .i64 x))]) (fun _ => []) (fun x => a.length - x.toNat) (fun x => 0 ≤ x ∧ x.toNat ≤ a.length ∧ ∀ (j : Nat) (t u : Ty5), j < x.toNat → a[j]? = some t → b[j]? = some u → lessT t u = true) 0 ⟨by simp, by simp, fun j t u hj => absurd hj (Nat.not_lt_zero _)⟩ rfl rfl ?_
  rintro i N ⟨h0, hi, hj⟩ hN
  simp only at h0 hi hj hN ⊢
  cbv
  (repeat'((first|(apply zS;kernel_rfl)|(apply zD;decide +kernel)|(apply zE;decide +kernel)|(apply zF;decide +kernel)|(apply zL;decide +kernel)|(apply zM;decide +kernel)|(apply zN;intros)|(apply zO;intros)|(apply zT;omega)|(apply zU;omega)|(apply zP;omega;intros)|(apply zQ;omega;intros)|apply zR);cbv))
  refine BinK.lss ?_ ?_ <;> intro hlt <;> cbv <;> (repeat'((first|(apply zS;kernel_rfl)|(apply zD;decide +kernel)|(apply zE;decide +kernel)|(apply zF;decide +kernel)|(apply zL;decide +kernel)|(apply zM;decide +kernel)|(apply zN;intros)|(apply zO;intros)|(apply zT;omega)|(apply zU;omega)|(apply zP;omega;intros)|(apply zQ;omega;intros)|apply zR);cbv))
  · obtain ⟨t, ht, hK⟩ := hKat i.toNat (by omega)
    obtain ⟨u, hu, hK'⟩ := hKat' i.toNat (by omega)
    have hct := hc t (List.mem_of_getElem? ht) u (List.mem_of_getElem? hu)
    have hpt := ty_pure t
    have hpu := ty_pure u
    have hno : lessT t u = false → ∀ h', Q (.raw (.bool false)) h' := fun e => q2 fun h => by
      have := (lessL_at hl).1 h i.toNat t u ht hu
      rw [e] at this
      cases this
    have hnext : lessT t u = true → ∀ r : Int, r = i + 1 → ∀ (j : Nat) (t u : Ty5), j < r.toNat → a[j]? = some t → b[j]? = some u → lessT t u = true := fun e r hr j x y hjr hx hy => by
      by_cases hji : j = i.toNat
      · rw [hji, ht] at hx
        rw [hji, hu] at hy
        cases hx
        cases hy
        exact e
      · exact hj j x y (by omega) hx hy
    generalize lessT t u = bb at hct hno hnext
    obtain ⟨k0, n0, m0, L0, K0, f0, i0, j0⟩ := c4_node t
    obtain ⟨k1, n1, m1, L1, K1, f1, i1, j1⟩ := c4_node u
    clear i0 j0 i1 j1
    rw [f0] at hct hpt hK
    rw [f1] at hct hpu hK'
    clear f0 f1 hc q2 q3 hj ht hu
    refine IdxK.intro h0 hK ?_
    cbv
    (repeat'((first|(apply zS;kernel_rfl)|(apply zD;decide +kernel)|(apply zE;decide +kernel)|(apply zF;decide +kernel)|(apply zL;decide +kernel)|(apply zM;decide +kernel)|(apply zN;intros)|(apply zO;intros)|(apply zT;omega)|(apply zU;omega)|(apply zP;omega;intros)|(apply zQ;omega;intros)|apply zR);cbv))
    refine IdxK.intro h0 hK' ?_
    cbv
    (repeat'((first|(apply zS;kernel_rfl)|(apply zD;decide +kernel)|(apply zE;decide +kernel)|(apply zF;decide +kernel)|(apply zL;decide +kernel)|(apply zM;decide +kernel)|(apply zN;intros)|(apply zO;intros)|(apply zT;omega)|(apply zU;omega)|(apply zP;omega;intros)|(apply zQ;omega;intros)|apply zR);cbv))
    refine .one hct (cons_pure hpt (cons_pure hpu rfl)) rfl ?_
    rcases bb with _ | _
    · cbv
      (repeat'((first|(apply zS;kernel_rfl)|(apply zD;decide +kernel)|(apply zE;decide +kernel)|(apply zF;decide +kernel)|(apply zL;decide +kernel)|(apply zM;decide +kernel)|(apply zN;intros)|(apply zO;intros)|(apply zT;omega)|(apply zU;omega)|(apply zP;omega;intros)|(apply zQ;omega;intros)|apply zR);cbv))
      exact ⟨hno rfl _⟩
    have hnext := hnext rfl
    cbv
    (repeat'((first|(apply zS;kernel_rfl)|(apply zD;decide +kernel)|(apply zE;decide +kernel)|(apply zF;decide +kernel)|(apply zL;decide +kernel)|(apply zM;decide +kernel)|(apply zN;intros)|(apply zO;intros)|(apply zT;omega)|(apply zU;omega)|(apply zP;omega;intros)|(apply zQ;omega;intros)|apply zR);cbv))
    rename_i r hr
    have hnext := hnext r hr
    refine RoundK.next r ⟨by omega, by omega, hnext⟩ (by omega) rfl rfl
  · have hLt : lessL a b = true := (lessL_at hl).2 fun j t u ht hu => hj j t u (by have := (List.getElem?_eq_some_iff.1 ht).1; omega) ht hu
    exact ⟨q3 hLt _⟩
set_option maxRecDepth 20000 in
theorem rallL_off (a b : List Ty5) (hl : a.length ≠ b.length) (Q : D → H → Prop) (hQ : ∀ h', Q (.raw (.bool false)) h') : wfun TT 12 [.sl none 5 (tysD a), .sl none 5 (tysD b)] [] Q := by
  have hKl := tys_len a
  have hKl' := tys_len b
  generalize tysD a = KS at hKl ⊢
  generalize tysD b = KS' at hKl' ⊢
  cbv
  (repeat'((first|(apply zS;kernel_rfl)|(apply zD;decide +kernel)|(apply zE;decide +kernel)|(apply zF;decide +kernel)|(apply zL;decide +kernel)|(apply zM;decide +kernel)|(apply zN;intros)|(apply zO;intros)|(apply zT;omega)|(apply zU;omega)|(apply zP;omega;intros)|(apply zQ;omega;intros)|apply zR);cbv))
  exact ⟨hQ _⟩
theorem rallL_len (a b : List Ty5) (ha : okT.okL a) (hb : okT.okL b) (hk : a.length ≤ 1000000) (hn : ∀ t ∈ a, lenT t) : CP (TT ()) 12 [.sl none 5 (tysD a), .sl none 5 (tysD b)] (· = .raw (.bool (lessL a b))) := by
  by_cases hl : a.length = b.length
  · exact c4_run (rallL_run a b hl (by omega) fun t ht u hu => rless_len t (hn t ht) (okL_get ha t ht) u (okL_get hb u hu))
  · have e : lessL a b = false := by
      rw [Bool.eq_false_iff]
      exact fun h => hl (lessL_len h)
    rw [e]
    exact c4_run (rallL_off a b hl)
theorem rallL_cp (a b : List Ty5) (ha : okT.okL a) (hb : okT.okL b) (hk : a.length ≤ 1000000) (hn : ∀ t ∈ a, nodesT t ≤ 1000000) : CP (TT ()) 12 [.sl none 5 (tysD a), .sl none 5 (tysD b)] (· = .raw (.bool (lessL a b))) := rallL_len a b ha hb hk fun t ht => nodes_lenT t (hn t ht)
end Go.Proofs.Ytllehceckdcbaaa

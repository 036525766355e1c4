/- limbeckref07: the document's own answers on bindings put in. -/
import Derived.Test.YtbfmaicoefefaaaPwBd
import Derived.Test.YtbfmaicoefefaaaPwC4
set_option linter.unusedSimpArgs false
set_option linter.unusedVariables false
namespace Go.Proofs.Ytbfmaicoefefaaa
open Go.RowKit Pv
set_option maxRecDepth 100000
/-! ### find -/
set_option maxRecDepth 20000 in
set_option maxHeartbeats 4000000 in
theorem find_run (m : List Bd) (s : ByteArray) (hm : m.length ≤ 140737488355328) (Q : D → H → Prop)
    (hQ : ∀ (z : Int) h', (z = -1 ∧ findT m s = none) ∨ (0 ≤ z ∧ z.toNat < m.length ∧ ∃ p, m[z.toNat]? = some p ∧ findT m s = some p.2) → Q (.raw (.int .i64 z)) h') : wfun TT 85 [.sl none 6 (bnsD m), .raw (.string s)] [] Q := by
  have hBl := bns_len m
  have hBi := bns_idb m
  have hat := fun i => bns_at (m := m) (i := i)
  generalize bnsD m = BS at hBl hBi hat ⊢
  cbv
  (repeat'((first|(apply zS;kernel_rfl)|(apply zD;decide +kernel)|(apply zE;decide +kernel)|(apply zF;decide +kernel)|(apply zL;decide +kernel)|(apply zM;decide +kernel)|(apply zN;intros)|(apply zO;intros)|(apply zT;omega)|(apply zU;omega)|(apply zP;omega;intros)|(apply zQ;omega;intros)|apply zR);cbv))
  refine LoopK.put (X := Int) (fun x => [(5, .raw (.int .i64 x))]) (fun _ => []) (fun x => m.length - x.toNat) (fun x => 0 ≤ x ∧ x.toNat ≤ m.length ∧ ∀ (j : Nat) (q : Bd), j < x.toNat → m[j]? = some q → q.1 ≠ s) 0 ⟨by simp, by simp, fun j q hj => absurd hj (Nat.not_lt_zero _)⟩ rfl rfl ?_
  rintro i N ⟨h0, hi, hj⟩ hN
  simp only at h0 hi hj hN ⊢
  cbv
  (repeat'((first|(apply zS;kernel_rfl)|(apply zD;decide +kernel)|(apply zE;decide +kernel)|(apply zF;decide +kernel)|(apply zL;decide +kernel)|(apply zM;decide +kernel)|(apply zN;intros)|(apply zO;intros)|(apply zT;omega)|(apply zU;omega)|(apply zP;omega;intros)|(apply zQ;omega;intros)|apply zR);cbv))
  refine BinK.lss ?_ ?_ <;> intro hlt <;> cbv <;> (repeat'((first|(apply zS;kernel_rfl)|(apply zD;decide +kernel)|(apply zE;decide +kernel)|(apply zF;decide +kernel)|(apply zL;decide +kernel)|(apply zM;decide +kernel)|(apply zN;intros)|(apply zO;intros)|(apply zT;omega)|(apply zU;omega)|(apply zP;omega;intros)|(apply zQ;omega;intros)|apply zR);cbv))
  · obtain ⟨p, hp, hB⟩ := hat i.toNat (by omega)
    obtain ⟨k, n, nm, L, K, f0, f1, j1, j2⟩ := bn_node p
    clear f1 j1 j2
    rw [f0] at hB
    have hyes : p.1 = s → ∀ h', Q (.raw (.int .i64 i)) h' := fun e h' => hQ i h' (.inr ⟨h0, by omega, p, hp, findT_some hp e hj⟩)
    have hnext : p.1 ≠ s → ∀ r : Int, r = i + 1 → ∀ (j : Nat) (q : Bd), j < r.toNat → m[j]? = some q → q.1 ≠ s := fun e r hr j q hjr hq => by
      by_cases hji : j = i.toNat
      · rw [hji, hp] at hq
        cases hq
        exact e
      · exact hj j q (by omega) hq
    generalize p.1 = pn at hB hyes hnext
    clear hj hQ hp f0 hat
    refine IdxK.intro h0 hB ?_
    cbv
    (repeat'((first|(apply zS;kernel_rfl)|(apply zD;decide +kernel)|(apply zE;decide +kernel)|(apply zF;decide +kernel)|(apply zL;decide +kernel)|(apply zM;decide +kernel)|(apply zN;intros)|(apply zO;intros)|(apply zT;omega)|(apply zU;omega)|(apply zP;omega;intros)|(apply zQ;omega;intros)|apply zR);cbv))
    refine BinK.seql ?_ ?_ <;> intro he
    · have hyes := hyes he
      cbv
      (repeat'((first|(apply zS;kernel_rfl)|(apply zD;decide +kernel)|(apply zE;decide +kernel)|(apply zF;decide +kernel)|(apply zL;decide +kernel)|(apply zM;decide +kernel)|(apply zN;intros)|(apply zO;intros)|(apply zT;omega)|(apply zU;omega)|(apply zP;omega;intros)|(apply zQ;omega;intros)|apply zR);cbv))
      exact ⟨hyes _⟩
    · have hnext := hnext he
      cbv
      (repeat'((first|(apply zS;kernel_rfl)|(apply zD;decide +kernel)|(apply zE;decide +kernel)|(apply zF;decide +kernel)|(apply zL;decide +kernel)|(apply zM;decide +kernel)|(apply zN;intros)|(apply zO;intros)|(apply zT;omega)|(apply zU;omega)|(apply zP;omega;intros)|(apply zQ;omega;intros)|apply zR);cbv))
      rename_i r hr
      have hnext := hnext r hr
      refine RoundK.next r ?_ ?_ ?_ ?_
      · exact ⟨by omega, by omega, hnext⟩
      · show m.length - r.toNat < N
        omega
      · rfl
      · rfl
  · have hno : ∀ h', Q (.raw (.int .i64 (-1))) h' := fun h' => hQ (-1) h' (.inl ⟨rfl, findT_none fun j q hq => hj j q (by
      have := (List.getElem?_eq_some_iff.1 hq).1
      omega) hq⟩)
    exact ⟨hno _⟩
def FindQ (m : List Bd) (s : ByteArray) (d : D) : Prop := ∃ z : Int, d = .raw (.int .i64 z) ∧ ((z = -1 ∧ findT m s = none) ∨ (0 ≤ z ∧ z.toNat < m.length ∧ ∃ p, m[z.toNat]? = some p ∧ findT m s = some p.2))
theorem find_cp (m : List Bd) (s : ByteArray) (hm : m.length ≤ 140737488355328) : CP (TT ()) 85 [.sl none 6 (bnsD m), .raw (.string s)] (FindQ m s) :=
  (wfun_ok (T := TT) (by kernel_rfl) (find_run m s hm (fun d _ => FindQ m s d) fun z _ h => ⟨z, rfl, h⟩)).cp fun d h' ⟨z, h1, h2⟩ => ⟨d, by rw [h1]; rfl, z, h1, h2⟩
/-! ### Plain -/
set_option maxRecDepth 20000 in
set_option maxHeartbeats 4000000 in
theorem plain_run (m : List Bd) (hm : m.length ≤ 140737488355328) (k n : Int) (nm : ByteArray) (ls : List ByteArray) (ks : List Ty5) (hks : ks.length ≤ 1000000)
    (hc : ∀ t ∈ ks, CP (TT ()) 69 [tyD t, .sl none 6 (bnsD m)] (· = tyD (putT m t))) (Q : D → H → Prop) (hQ : ∀ d h', Wk d (tyD (putT m (.mk k n nm ls ks))) → Q d h') :
    wfun TT 69 [tyD (.mk k n nm ls ks), .sl none 6 (bnsD m)] [] Q := by
  have hcf := find_cp m nm hm
  have hBp := bns_pure m
  have hat := fun i => bns_at (m := m) (i := i)
  have hyes : ∀ u, k = 6 → findT m nm = some u → ∀ h', Q (tyD u) h' := fun u h6 hf h' => hQ _ h' (by
    rw [show putT m (.mk k n nm ls ks) = u from tr_some (by unfold putF; rw [if_pos h6, hf]) ls ks]
    exact .refl _)
  have hno : ¬ (k = 6 ∧ findT m nm ≠ none) → ∀ tag h', Q (.agg [.raw (.int .i64 k), .raw (.int .i64 n), .raw (.string nm), .sl none 1 (ls.map strD), .sl tag 5 (tysD (ks.map (putT m)))]) h' := fun h tag h' => hQ _ h' (by
    rw [show putT m (.mk k n nm ls ks) = .mk k n nm ls (ks.map (putT m)) from tr_none (by
      unfold putF
      by_cases h6 : k = 6
      · rw [if_pos h6]
        exact Classical.byContradiction fun e => h ⟨h6, e⟩
      · rw [if_neg h6]) ls ks]
    exact .agg (.cons (.refl _) (.cons (.refl _) (.cons (.refl _) (.cons (.refl _) (.cons (untag_any _ _ _) .nil))))))
  simp only [tyD]
  have hBi := bns_idb m
  have hLi := strs_idb ls
  have hKi := tys_idb ks
  have hKl := tys_len ks
  have hKat := fun i => tys_at (ks := ks) (i := i)
  clear hQ
  generalize bnsD m = BS at hBi hc hcf hBp hat ⊢
  generalize ls.map strD = LS at hno hLi ⊢
  generalize tysD ks = KS at hKi hKl hKat ⊢
  cbv
  (repeat'((first|(apply zS;kernel_rfl)|(apply zD;decide +kernel)|(apply zE;decide +kernel)|(apply zF;decide +kernel)|(apply zL;decide +kernel)|(apply zM;decide +kernel)|(apply zN;intros)|(apply zO;intros)|(apply zT;omega)|(apply zU;omega)|(apply zP;omega;intros)|(apply zQ;omega;intros)|apply zR);cbv))
  refine BinK.eql ?_ ?_ <;> intro h6 <;> cbv <;> (repeat'((first|(apply zS;kernel_rfl)|(apply zD;decide +kernel)|(apply zE;decide +kernel)|(apply zF;decide +kernel)|(apply zL;decide +kernel)|(apply zM;decide +kernel)|(apply zN;intros)|(apply zO;intros)|(apply zT;omega)|(apply zU;omega)|(apply zP;omega;intros)|(apply zQ;omega;intros)|apply zR);cbv))
  case' refine_1 =>
    refine CallK.pure hcf (by simp [pureL, pureD, hBp]) ?_
    rintro d ⟨z, rfl, hz⟩
    refine ⟨rfl, ?_⟩
    cbv
    (repeat'((first|(apply zS;kernel_rfl)|(apply zD;decide +kernel)|(apply zE;decide +kernel)|(apply zF;decide +kernel)|(apply zL;decide +kernel)|(apply zM;decide +kernel)|(apply zN;intros)|(apply zO;intros)|(apply zT;omega)|(apply zU;omega)|(apply zP;omega;intros)|(apply zQ;omega;intros)|apply zR);cbv))
    refine BinK.geq ?_ ?_ <;> intro hz0 <;> cbv <;> (repeat'((first|(apply zS;kernel_rfl)|(apply zD;decide +kernel)|(apply zE;decide +kernel)|(apply zF;decide +kernel)|(apply zL;decide +kernel)|(apply zM;decide +kernel)|(apply zN;intros)|(apply zO;intros)|(apply zT;omega)|(apply zU;omega)|(apply zP;omega;intros)|(apply zQ;omega;intros)|apply zR);cbv))
    · obtain ⟨hz1, p, hp, hf⟩ : z.toNat < m.length ∧ ∃ p, m[z.toNat]? = some p ∧ findT m nm = some p.2 := by
        rcases hz with ⟨h, _⟩ | ⟨_, h⟩
        · omega
        · exact h
      obtain ⟨p', hp', hB⟩ := hat z.toNat hz1
      obtain rfl : p = p' := Option.some.inj (hp.symm.trans hp')
      have hyes := hyes p.2 h6 hf
      obtain ⟨k', n', nm', L', K', f0, f1, _, _⟩ := bn_node p
      rw [f0] at hB
      rw [f1] at hyes
      generalize p.1 = pn at hB
      refine IdxK.intro hz0 hB ?_
      cbv
      (repeat'((first|(apply zS;kernel_rfl)|(apply zD;decide +kernel)|(apply zE;decide +kernel)|(apply zF;decide +kernel)|(apply zL;decide +kernel)|(apply zM;decide +kernel)|(apply zN;intros)|(apply zO;intros)|(apply zT;omega)|(apply zU;omega)|(apply zP;omega;intros)|(apply zQ;omega;intros)|apply zR);cbv))
      exact ⟨hyes _⟩
    have hno := hno (fun h => h.2 (by
      rcases hz with ⟨_, h⟩ | ⟨h, _⟩
      · exact h
      · omega))
  case' refine_2 =>
    have hno := hno (fun h => h6 h.1)
  all_goals
    refine LoopK.cellLog 2 4 25 5 rfl rfl ?_
    cbv
    refine LoopK.put (X := Int × List D × Nat) (fun x => [(7, .raw (.int .i64 x.1))]) (fun x => [(2, .box 25 [.raw (.int .i64 k), .raw (.int .i64 n), .raw (.string nm), .sl none 1 LS, .sl (some 3) 5 x.2.1]), (3, .log 25 5 x.2.2)]) (fun x => ks.length - x.1.toNat)
      (fun x => 0 ≤ x.1 ∧ x.1.toNat ≤ ks.length ∧ x.2.1 = tysD ((ks.take x.1.toNat).map (putT m)) ∧ x.2.2 = x.2.1.length) (0, [], 0) ⟨by simp, by simp, rfl, rfl⟩ rfl rfl ?_
    rintro ⟨i, L, nl⟩ N ⟨h0, hi, hL, hnl⟩ hN
    simp only at h0 hi hL hnl hN ⊢
    have hLl : L.length = i.toNat := by rw [hL, tys_len]; simp; omega
    cbv
    (repeat'((first|(apply zS;kernel_rfl)|(apply zD;decide +kernel)|(apply zE;decide +kernel)|(apply zF;decide +kernel)|(apply zL;decide +kernel)|(apply zM;decide +kernel)|(apply zN;intros)|(apply zO;intros)|(apply zT;omega)|(apply zU;omega)|(apply zP;omega;intros)|(apply zQ;omega;intros)|apply zR);cbv))
    refine BinK.lss ?_ ?_ <;> intro hlt <;> cbv <;> (repeat'((first|(apply zS;kernel_rfl)|(apply zG;decide +kernel)|(apply zF;decide +kernel)|(apply zE;decide +kernel)|(apply zD;decide +kernel)|(apply zL;decide +kernel)|(apply zM;decide +kernel)|(apply zN;intros)|(apply zO;intros)|(apply zT;omega)|(apply zU;omega)|(apply zP;omega;intros)|(apply zQ;omega;intros)|apply zR);cbv))
    · obtain ⟨t, ht, hK⟩ := hKat i.toNat (by omega)
      have hct := hc t (List.mem_of_getElem? ht)
      have hpt := ty_pure t
      have hpu := ty_pure (putT m t)
      have htake : ks.take (i.toNat + 1) = ks.take i.toNat ++ [t] := by
        obtain ⟨h1, h2⟩ := List.getElem?_eq_some_iff.1 ht
        rw [List.take_succ_eq_append_getElem h1, h2]
      have hstep : ∀ r : Int, r = i + 1 → tysD ((ks.take r.toNat).map (putT m)) = L ++ [tyD (putT m t)] := fun r hr => by
        rw [hL, show r.toNat = i.toNat + 1 by omega, htake]
        simp [tysD_map]
      obtain ⟨k0, n0, m0, L0, K0, f0, i0, j0⟩ := c4_node t
      obtain ⟨k1, n1, m1, L1, K1, f1, i1, j1⟩ := c4_node (putT m t)
      clear i0 j0 i1 j1
      rw [f0] at hct hpt hK
      rw [f1] at hct hpu hstep
      clear hc hno hyes hL
      refine IdxK.intro h0 hK ?_
      cbv
      (repeat'((first|(apply zS;kernel_rfl)|(apply zG;decide +kernel)|(apply zF;decide +kernel)|(apply zE;decide +kernel)|(apply zD;decide +kernel)|(apply zL;decide +kernel)|(apply zM;decide +kernel)|(apply zN;intros)|(apply zO;intros)|(apply zT;omega)|(apply zU;omega)|(apply zP;omega;intros)|(apply zQ;omega;intros)|apply zR);cbv))
      refine PCallK.one hct (cons_pure hpt (cons_pure (by simp [pureD, hBp]) rfl)) hpu ?_
      cbv
      (repeat'((first|(apply zS;kernel_rfl)|(apply zD;decide +kernel)|(apply zE;decide +kernel)|(apply zF;decide +kernel)|(apply zL;decide +kernel)|(apply zM;decide +kernel)|(apply zN;intros)|(apply zO;intros)|(apply zT;omega)|(apply zU;omega)|(apply zP;omega;intros)|(apply zQ;omega;intros)|apply zR);cbv))
      refine AppK.sl el_tys el_tys rfl hnl (by simp only [List.length_cons, List.length_nil]; omega) ?_
      intro L' nl' hL' hnl'
      cbv
      (repeat'((first|(apply zS;kernel_rfl)|(apply zD;decide +kernel)|(apply zE;decide +kernel)|(apply zF;decide +kernel)|(apply zL;decide +kernel)|(apply zM;decide +kernel)|(apply zN;intros)|(apply zO;intros)|(apply zT;omega)|(apply zU;omega)|(apply zP;omega;intros)|(apply zQ;omega;intros)|apply zR);cbv))
      rename_i r hr
      have hL2 : L' = tysD ((ks.take r.toNat).map (putT m)) := by rw [hstep r hr]; exact hL'
      have hLi2 : ∀ m, idbL m L' = true := fun m => pure_idbL m _ (by rw [hL2]; exact tys_pure _)
      refine RoundK.forget (r, L', nl') ⟨by omega, by omega, hL2, hnl'⟩ (by omega) rfl rfl ?_ ?_
      · simp [idbL, idb, hBi, hLi, hKi]
      · simp [cellIdb, idbL, idb, hLi, hKi, hLi2]
    · have hall : ks.take i.toNat = ks := List.take_of_length_le (by omega)
      rw [hall] at hL
      subst hL
      exact ⟨hno _ _⟩
theorem plain_cp (m : List Bd) (hm : m.length ≤ 140737488355328) : ∀ t : Ty5, nodesT t ≤ 1000000 → CP (TT ()) 69 [tyD t, .sl none 6 (bnsD m)] (· = tyD (putT m t)) := by
  intro t
  induction h : szT t using Nat.strongRecOn generalizing t with
  | ind z ih =>
    obtain ⟨k, n, nm, ls, ks⟩ := t
    intro hn
    have hkn : ks.length ≤ nodesL ks := nodesL_len ks
    simp only [nodesT] at hn
    refine c4_runW (ty_pure _) fun Q hQ => plain_run m hm k n nm ls ks (by omega) (fun t ht => ih (szT t) ?_ t rfl ?_) Q hQ
    · have := szL_mem ht
      rw [← h]
      simp only [szT]
      omega
    · have := nodesL_mem ht
      omega
end Go.Proofs.Ytbfmaicoefefaaa

/- limbeckref07.All, limbeckref04.SameAll. -/
import Derived.Test.YtbfmaicoefefaaaSbF
set_option linter.unusedSimpArgs false
set_option linter.unusedVariables false
namespace Go.Proofs.Ytbfmaicoefefaaa
open Go.RowKit Pv
set_option maxRecDepth 100000
def allB (m : List Bd) (l : List Ty5) : Bool := l.all fun t => fitB (putT m t)
def allT (m : List Bd) (l : List Ty5) : List Ty5 := if allB m l = true then l.map (putT m) else []
def allP (m : List Bd) (l : List Ty5) : D := .tup [.sl none 5 (tysD (allT m l)), .raw (.bool (allB m l))]
theorem allP_pure (m : List Bd) (l : List Ty5) : pureD (allP m l) = some (allP m l) := by simp [allP, pureD, pureL, tys_pure]
theorem fit_yes {t : Ty5} (h : fitB t = true) : fitT t = t := by unfold fitT; rw [if_pos h]
set_option maxRecDepth 20000 in
set_option maxHeartbeats 4000000 in
theorem rall_run (m : List Bd) (l : List Ty5) (hl : l.length ≤ 1000000)
    (hc : ∀ t ∈ l, CP (TT ()) 38 [tyD t, .sl none 6 (bnsD m)] (· = fitP (putT m t))) (Q : D → H → Prop) (hQ : ∀ d h', Wk d (allP m l) → Q d h') :
    wfun TT 41 [.sl none 5 (tysD l), .sl none 6 (bnsD m)] [] Q := by
  have hBp := bns_pure m
  have hBi := bns_idb m
  have hKi := tys_idb l
  have hKl := tys_len l
  have hKat := fun i => tys_at (ks := l) (i := i)
  have hno : ∀ t ∈ l, fitB (putT m t) = false → ∀ h', Q (.tup [.raw (.slice none 0 0), .raw (.bool false)]) h' := fun t ht hf h' => hQ _ h' (by
    have hb : allB m l = false := by
      unfold allB
      rw [List.all_eq_false]
      exact ⟨t, ht, by rw [hf]; decide⟩
    unfold allP allT
    rw [hb]
    exact .tup (.cons (nil_any 5) (.refl _)))
  have hyes : (∀ (j : Nat) (t : Ty5), l[j]? = some t → fitB (putT m t) = true) → ∀ tag h', Q (.tup [.sl tag 5 (tysD (l.map (putT m))), .raw (.bool true)]) h' := fun h tag h' => hQ _ h' (by
    have hb : allB m l = true := by
      unfold allB
      rw [List.all_eq_true]
      intro t ht
      obtain ⟨j, hj, rfl⟩ := List.getElem_of_mem ht
      exact h j _ (List.getElem?_eq_getElem hj)
    unfold allP allT
    rw [hb]
    exact .tup (.cons (untag_any _ _ _) (.refl _)))
  clear hQ
  generalize bnsD m = BS at hBi hBp hc ⊢
  generalize tysD l = KS at hKi hKl hKat ⊢
  cbv
  (repeat'((first|(apply zS;kernel_rfl)|(apply zD;decide +kernel)|(apply zE;decide +kernel)|(apply zF;decide +kernel)|(apply zL;decide +kernel)|(apply zM;decide +kernel)|(apply zN;intros)|(apply zO;intros)|(apply zT;omega)|(apply zU;omega)|(apply zP;omega;intros)|(apply zQ;omega;intros)|apply zR);cbv))
  refine LoopK.log 6 25 5 rfl ?_
  refine LoopK.put (X := Int × List D × Nat) (fun x => [(6, .sl (some 0) 5 x.2.1), (7, .raw (.int .i64 x.1))]) (fun x => [(0, .log 25 5 x.2.2)]) (fun x => l.length - x.1.toNat)
    (fun x => 0 ≤ x.1 ∧ x.1.toNat ≤ l.length ∧ x.2.1 = tysD ((l.take x.1.toNat).map (putT m)) ∧ x.2.2 = x.2.1.length ∧ ∀ (j : Nat) (t : Ty5), j < x.1.toNat → l[j]? = some t → fitB (putT m t) = true) (0, [], 0) ⟨by simp, by simp, rfl, rfl, fun j t hj => absurd hj (Nat.not_lt_zero _)⟩ rfl rfl ?_
  rintro ⟨i, L, nl⟩ N ⟨h0, hi, hL, hnl, hj⟩ hN
  simp only at h0 hi hL hnl hj hN ⊢
  have hLl : L.length = i.toNat := by rw [hL, tys_len]; simp; omega
  cbv
  (repeat'((first|(apply zS;kernel_rfl)|(apply zD;decide +kernel)|(apply zE;decide +kernel)|(apply zF;decide +kernel)|(apply zL;decide +kernel)|(apply zM;decide +kernel)|(apply zN;intros)|(apply zO;intros)|(apply zT;omega)|(apply zU;omega)|(apply zP;omega;intros)|(apply zQ;omega;intros)|apply zR);cbv))
  refine BinK.lss ?_ ?_ <;> intro hlt <;> cbv <;> (repeat'((first|(apply zS;kernel_rfl)|(apply zD;decide +kernel)|(apply zE;decide +kernel)|(apply zF;decide +kernel)|(apply zL;decide +kernel)|(apply zM;decide +kernel)|(apply zN;intros)|(apply zO;intros)|(apply zT;omega)|(apply zU;omega)|(apply zP;omega;intros)|(apply zQ;omega;intros)|apply zR);cbv))
  · obtain ⟨t, ht, hK⟩ := hKat i.toNat (by omega)
    have htm := List.mem_of_getElem? ht
    have hct := hc t htm
    have hno := hno t htm
    have hpt := ty_pure t
    have hpf := fitP_pure (putT m t)
    unfold fitP at hct hpf
    have hgo : fitB (putT m t) = true → fitT (putT m t) = putT m t ∧ ∀ r : Int, r = i + 1 → (∀ (j : Nat) (t : Ty5), j < r.toNat → l[j]? = some t → fitB (putT m t) = true) ∧ tysD ((l.take r.toNat).map (putT m)) = L ++ [tyD (putT m t)] := fun hf => ⟨fit_yes hf, fun r hr => ⟨fun j u hjr hu => by
        by_cases hji : j = i.toNat
        · rw [hji, ht] at hu
          cases hu
          exact hf
        · exact hj j u (by omega) hu, by
        have htake : l.take (i.toNat + 1) = l.take i.toNat ++ [t] := by
          obtain ⟨h1, h2⟩ := List.getElem?_eq_some_iff.1 ht
          rw [List.take_succ_eq_append_getElem h1, h2]
        rw [hL, show r.toNat = i.toNat + 1 by omega, htake]
        simp [tysD_map]⟩⟩
    clear hc hyes hL hj
    generalize putT m t = u at hct hpf hno hgo
    rcases hb : fitB u with _ | _
    · rw [hb] at hct hpf
      have hno := hno hb
      generalize fitT u = v at hct hpf
      obtain ⟨k0, n0, m0, L0, K0, f0, _, _⟩ := c4_node t
      obtain ⟨k1, n1, m1, L1, K1, f1, _, _⟩ := c4_node v
      rw [f0] at hct hpt hK
      rw [f1] at hct hpf
      refine IdxK.intro h0 hK ?_
      cbv
      (repeat'((first|(apply zS;kernel_rfl)|(apply zD;decide +kernel)|(apply zE;decide +kernel)|(apply zF;decide +kernel)|(apply zL;decide +kernel)|(apply zM;decide +kernel)|(apply zN;intros)|(apply zO;intros)|(apply zT;omega)|(apply zU;omega)|(apply zP;omega;intros)|(apply zQ;omega;intros)|apply zR);cbv))
      refine .one hct (cons_pure hpt (by simp [pureL, pureD, hBp])) hpf ?_
      cbv
      (repeat'((first|(apply zS;kernel_rfl)|(apply zD;decide +kernel)|(apply zE;decide +kernel)|(apply zF;decide +kernel)|(apply zL;decide +kernel)|(apply zM;decide +kernel)|(apply zN;intros)|(apply zO;intros)|(apply zT;omega)|(apply zU;omega)|(apply zP;omega;intros)|(apply zQ;omega;intros)|apply zR);cbv))
      exact ⟨hno _⟩
    · obtain ⟨e1, hgo⟩ := hgo hb
      rw [hb, e1] at hct hpf
      obtain ⟨k0, n0, m0, L0, K0, f0, i0, j0⟩ := c4_node t
      obtain ⟨k1, n1, m1, L1, K1, f1, i1, j1⟩ := c4_node u
      clear i0 j0 i1 j1 hno hb e1
      rw [f0] at hct hpt hK
      rw [f1] at hct hpf hgo
      refine IdxK.intro h0 hK ?_
      cbv
      (repeat'((first|(apply zS;kernel_rfl)|(apply zD;decide +kernel)|(apply zE;decide +kernel)|(apply zF;decide +kernel)|(apply zL;decide +kernel)|(apply zM;decide +kernel)|(apply zN;intros)|(apply zO;intros)|(apply zT;omega)|(apply zU;omega)|(apply zP;omega;intros)|(apply zQ;omega;intros)|apply zR);cbv))
      refine .one hct (cons_pure hpt (by simp [pureL, pureD, hBp])) hpf ?_
      cbv
      (repeat'((first|(apply zS;kernel_rfl)|(apply zD;decide +kernel)|(apply zE;decide +kernel)|(apply zF;decide +kernel)|(apply zL;decide +kernel)|(apply zM;decide +kernel)|(apply zN;intros)|(apply zO;intros)|(apply zT;omega)|(apply zU;omega)|(apply zP;omega;intros)|(apply zQ;omega;intros)|apply zR);cbv))
      refine AppK.sl el_tys el_tys rfl hnl (by simp only [List.length_cons, List.length_nil]; omega) ?_
      intro L' nl' hL' hnl'
      cbv
      (repeat'((first|(apply zS;kernel_rfl)|(apply zD;decide +kernel)|(apply zE;decide +kernel)|(apply zF;decide +kernel)|(apply zL;decide +kernel)|(apply zM;decide +kernel)|(apply zN;intros)|(apply zO;intros)|(apply zT;omega)|(apply zU;omega)|(apply zP;omega;intros)|(apply zQ;omega;intros)|apply zR);cbv))
      rename_i r hr
      obtain ⟨g1, g2⟩ := hgo r hr
      have hL2 : L' = tysD ((l.take r.toNat).map (putT m)) := by rw [g2]; exact hL'
      have hLi2 : ∀ k, idbL k L' = true := fun k => pure_idbL k _ (by rw [hL2]; exact tys_pure _)
      refine RoundK.forget (r, L', nl') ⟨by omega, by omega, hL2, hnl', g1⟩ (by omega) rfl rfl ?_ ?_
      · simp [idbL, idb, hBi, hKi, hLi2]
      · simp [cellIdb]
  · have hall : l.take i.toNat = l := List.take_of_length_le (by omega)
    rw [hall] at hL
    subst hL
    exact ⟨hyes (fun j t ht => hj j t (by have := (List.getElem?_eq_some_iff.1 ht).1; omega) ht) _ _⟩
theorem rall_cp (m : List Bd) (hm : m.length ≤ 140737488355328) (hmo : okB m) (l : List Ty5) (hl : l.length ≤ 1000000) (hlo : okT.okL l) (hn : ∀ t ∈ l, nodesT t ≤ 1000000 ∧ nodesT (putT m t) ≤ 1000000) : CP (TT ()) 41 [.sl none 5 (tysD l), .sl none 6 (bnsD m)] (· = allP m l) :=
  c4_runW (allP_pure m l) fun Q hQ => rall_run m l hl (fun t ht => rput_cp m hm hmo t (okL_get hlo t ht) (hn t ht).1 (hn t ht).2) Q hQ
/-! ### SameAll -/
set_option maxRecDepth 20000 in
set_option maxHeartbeats 4000000 in
theorem sameAll_run (l : List Ty5) (hlo : okT.okL l) (hl : l.length ≤ 140737488355328) (Q : D → H → Prop) (hQ : ∀ h', Q (.raw (.bool true)) h') : wfun TT 42 [.sl none 5 (tysD l), .sl none 5 (tysD l)] [] Q := by
  have hKi := tys_idb l
  have hKl := tys_len l
  have hKat := fun i => tys_at (ks := l) (i := i)
  generalize tysD l = KS at hKi hKl hKat ⊢
  cbv
  (repeat'((first|(apply zS;kernel_rfl)|(apply zD;decide +kernel)|(apply zE;decide +kernel)|(apply zF;decide +kernel)|(apply zL;decide +kernel)|(apply zM;decide +kernel)|(apply zN;intros)|(apply zO;intros)|(apply zT;omega)|(apply zU;omega)|(apply zP;omega;intros)|(apply zQ;omega;intros)|apply zR);cbv))
  refine LoopK.put (X := Int) (fun x => [(5, .raw (.int .i64 x))]) (fun _ => []) (fun x => l.length - x.toNat) (fun x => 0 ≤ x ∧ x.toNat ≤ l.length) 0 ⟨by simp, by simp⟩ rfl rfl ?_
  rintro i N ⟨h0, hi⟩ hN
  simp only at h0 hi hN ⊢
  cbv
  (repeat'((first|(apply zS;kernel_rfl)|(apply zD;decide +kernel)|(apply zE;decide +kernel)|(apply zF;decide +kernel)|(apply zL;decide +kernel)|(apply zM;decide +kernel)|(apply zN;intros)|(apply zO;intros)|(apply zT;omega)|(apply zU;omega)|(apply zP;omega;intros)|(apply zQ;omega;intros)|apply zR);cbv))
  refine BinK.lss ?_ ?_ <;> intro hlt <;> cbv <;> (repeat'((first|(apply zS;kernel_rfl)|(apply zD;decide +kernel)|(apply zE;decide +kernel)|(apply zF;decide +kernel)|(apply zL;decide +kernel)|(apply zM;decide +kernel)|(apply zN;intros)|(apply zO;intros)|(apply zT;omega)|(apply zU;omega)|(apply zP;omega;intros)|(apply zQ;omega;intros)|apply zR);cbv))
  · obtain ⟨t, ht, hK⟩ := hKat i.toNat (by omega)
    have hto := okL_get hlo t (List.mem_of_getElem? ht)
    have c := sameq_cp t t hto hto
    rw [same_refl] at c
    have hp := ty_pure t
    obtain ⟨k0, n0, m0, L0, K0, f0, i0, j0⟩ := c4_node t
    clear i0 j0
    rw [f0] at c hp hK
    refine IdxK.intro h0 hK ?_
    cbv
    (repeat'((first|(apply zS;kernel_rfl)|(apply zD;decide +kernel)|(apply zE;decide +kernel)|(apply zF;decide +kernel)|(apply zL;decide +kernel)|(apply zM;decide +kernel)|(apply zN;intros)|(apply zO;intros)|(apply zT;omega)|(apply zU;omega)|(apply zP;omega;intros)|(apply zQ;omega;intros)|apply zR);cbv))
    refine IdxK.intro h0 hK ?_
    cbv
    (repeat'((first|(apply zS;kernel_rfl)|(apply zD;decide +kernel)|(apply zE;decide +kernel)|(apply zF;decide +kernel)|(apply zL;decide +kernel)|(apply zM;decide +kernel)|(apply zN;intros)|(apply zO;intros)|(apply zT;omega)|(apply zU;omega)|(apply zP;omega;intros)|(apply zQ;omega;intros)|apply zR);cbv))
    refine .one c (cons_pure hp (cons_pure hp rfl)) rfl ?_
    cbv
    (repeat'((first|(apply zS;kernel_rfl)|(apply zD;decide +kernel)|(apply zE;decide +kernel)|(apply zF;decide +kernel)|(apply zL;decide +kernel)|(apply zM;decide +kernel)|(apply zN;intros)|(apply zO;intros)|(apply zT;omega)|(apply zU;omega)|(apply zP;omega;intros)|(apply zQ;omega;intros)|apply zR);cbv))
    rename_i r hr
    exact RoundK.next r ⟨by omega, by omega⟩ (by omega) rfl rfl
  · exact ⟨hQ _⟩
theorem sameAll_cp (l : List Ty5) (hlo : okT.okL l) (hl : l.length ≤ 140737488355328) : CP (TT ()) 42 [.sl none 5 (tysD l), .sl none 5 (tysD l)] (· = .raw (.bool true)) :=
  c4_run (sameAll_run l hlo hl)
end Go.Proofs.Ytbfmaicoefefaaa

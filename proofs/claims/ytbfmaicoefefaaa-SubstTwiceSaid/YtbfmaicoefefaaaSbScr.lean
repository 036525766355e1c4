/- The program's calls of package subst, as the laws need them: proved for the landed code. -/
import Derived.Test.YtbfmaicoefefaaaSbQ
set_option linter.unusedSimpArgs false
set_option linter.unusedVariables false
namespace Go.Proofs.Ytbfmaicoefefaaa
open Go.RowKit Pv
set_option maxRecDepth 100000
theorem tr_id {f : NodeF} (h : ∀ k n nm, f k n nm = none) : ∀ t : Ty5, trT f t = t := by
  refine ty_ind fun k n nm ls ks ih => ?_
  rw [tr_none (h k n nm)]
  congr 1
  exact (List.map_congr_left ih).trans (List.map_id _)
set_option maxRecDepth 20000 in
set_option maxHeartbeats 4000000 in
theorem pseal_cp (names : List ByteArray) (fr : Int) (t : Ty5) (hnl : names.length ≤ 1000) (hfr : -9223372036854775808 ≤ fr ∧ fr ≤ 9223372036854775807) (hn : nodesT t ≤ 100000) : CP (TT ()) 45 [tyD t, .sl none 1 (names.map strD), .raw (.int .i64 fr)] (· = tyD (sealR names fr t)) := by
  have hcap : pureL [.pe (.sl none 1 (names.map strD)) 0, .pe (.raw (.int .i64 fr)) 0] = some [.pe (.sl none 1 (names.map strD)) 0, .pe (.raw (.int .i64 fr)) 0] := by simp [pureL, pureD, strs_pure]
  have hm : 0 ≤ fr ∧ fr + names.length ≤ 1073741824 → CP (TT ()) 73 [chD 72 [.pe (.sl none 1 (names.map strD)) 0, .pe (.raw (.int .i64 fr)) 0], tyD t] (· = tyD (sealT names fr t)) := fun h =>
    made_cp _ _ hcap (sealF names fr) (fun _ => True) (fun _ _ _ _ _ _ _ _ => trivial) (fun k n nm ls ks _ => seal1_cp names fr h.1 (by omega) (by omega) k n nm ls ks) t trivial (by omega)
  have hyes : 0 ≤ fr ∧ fr + names.length ≤ 1073741824 → sealR names fr t = sealT names fr t := fun h => if_pos h
  have hno : ¬ (0 ≤ fr ∧ fr + names.length ≤ 1073741824) → sealR names fr t = t := fun h => if_neg h
  refine c4_runW (ty_pure _) fun Q hQ => ?_
  have hQ := fun h' => hQ _ h' (.refl _)
  have hy : 0 ≤ fr ∧ fr + names.length ≤ 1073741824 → ∀ h', Q (tyD (sealT names fr t)) h' := fun h => hyes h ▸ hQ
  have hx : ¬ (0 ≤ fr ∧ fr + names.length ≤ 1073741824) → ∀ h', Q (tyD t) h' := fun h h' => by
    have := hQ h'
    rwa [hno h] at this
  clear hQ hyes hno
  have hp := ty_pure t
  have hpu := ty_pure (sealT names fr t)
  have hNp := strs_pure names
  have hNl : (names.map strD).length = names.length := List.length_map ..
  generalize sealT names fr t = u at hm hy hpu
  obtain ⟨k1, n1, m1, L1, K1, f1, _, _⟩ := c4_node t
  obtain ⟨k2, n2, m2, L2, K2, f2, _, _⟩ := c4_node u
  rw [f1] at hm hp hx ⊢
  rw [f2] at hm hpu hy
  unfold chD at hm
  clear hcap
  obtain ⟨z, hz⟩ : ∃ z : Int, z = names.length := ⟨_, rfl⟩
  rw [← hz] at hm hy hx
  have hz0 : 0 ≤ z ∧ z ≤ 1000 := by omega
  have hzN : ∀ x : Int, x.toNat = (names.map strD).length → 0 ≤ x → x = z := fun x h1 h2 => by omega
  generalize names.map strD = NS at hm hNp hzN hNl ⊢
  clear hz
  cbv
  (repeat'((first|(apply zS;kernel_rfl)|(apply zD;decide +kernel)|(apply zE;decide +kernel)|(apply zF;decide +kernel)|(apply zL;decide +kernel)|(apply zM;decide +kernel)|(apply zN;intros)|(apply zO;intros)|(apply zT;omega)|(apply zU;omega)|(apply zP;omega;intros)|(apply zQ;omega;intros)|apply zR);cbv))
  refine BinK.lss ?_ ?_ <;> intro h0 <;> cbv <;> (repeat'((first|(apply zS;kernel_rfl)|(apply zD;decide +kernel)|(apply zE;decide +kernel)|(apply zF;decide +kernel)|(apply zL;decide +kernel)|(apply zM;decide +kernel)|(apply zN;intros)|(apply zO;intros)|(apply zT;omega)|(apply zU;omega)|(apply zP;omega;intros)|(apply zQ;omega;intros)|apply zR);cbv))
  · have hx := hx (by omega)
    exact ⟨hx _⟩
  · rename_i x hx0 hxN r hr
    have hxz := hzN x hxN hx0
    refine BinK.gtr ?_ ?_ <;> intro h1 <;> cbv <;> (repeat'((first|(apply zS;kernel_rfl)|(apply zD;decide +kernel)|(apply zE;decide +kernel)|(apply zF;decide +kernel)|(apply zL;decide +kernel)|(apply zM;decide +kernel)|(apply zN;intros)|(apply zO;intros)|(apply zT;omega)|(apply zU;omega)|(apply zP;omega;intros)|(apply zQ;omega;intros)|apply zR);cbv))
    · have hx := hx (by omega)
      exact ⟨hx _⟩
    · have hcond : 0 ≤ fr ∧ fr + z ≤ 1073741824 := by omega
      have hm := hm hcond
      have hy := hy hcond
      refine CallK.still 1 rfl (.inr rfl) ?_
      refine CallK.still 2 rfl (.inr rfl) ?_
      refine CallK.one hm (by simp [fzL, fzD, pureL, pureD] at hp ⊢; simp [hp, hNp]) hpu ?_
      cbv
      (repeat'((first|(apply zS;kernel_rfl)|(apply zD;decide +kernel)|(apply zE;decide +kernel)|(apply zF;decide +kernel)|(apply zL;decide +kernel)|(apply zM;decide +kernel)|(apply zN;intros)|(apply zO;intros)|(apply zT;omega)|(apply zU;omega)|(apply zP;omega;intros)|(apply zQ;omega;intros)|apply zR);cbv))
      exact ⟨hy _⟩
set_option maxRecDepth 20000 in
set_option maxHeartbeats 4000000 in
theorem popen_cp (fr : Int) (l : List Ty5) (t : Ty5) (hl : l.length ≤ 1000) (hlo : okT.okL l) (hfr : -9223372036854775808 ≤ fr ∧ fr ≤ 9223372036854775807) (hr : rngT t) (hn : nodesT t ≤ 100000) : CP (TT ()) 43 [tyD t, .raw (.int .i64 fr), .sl none 5 (tysD l)] (· = fitP (openR fr l t)) := by
  have hG : ∀ k n nm ls ks, rngT (.mk k n nm ls ks) → ∀ t ∈ ks, rngT t := fun k n nm ls ks h => rngL_mem h.2
  have main : ∀ l : List Ty5, l.length ≤ 1000 → okT.okL l → (0 ≤ fr ∧ fr ≤ 1073741824) ∨ l = [] → CP (TT ()) 67 [chD 70 [.pe (.raw (.int .i64 fr)) 0, .pe (.sl none 5 (tysD l)) 0], tyD t] (· = fitP (openT fr l t)) := fun l hl hlo h => by
    have hcap : pureL [.pe (.raw (.int .i64 fr)) 0, .pe (.sl none 5 (tysD l)) 0] = some [.pe (.raw (.int .i64 fr)) 0, .pe (.sl none 5 (tysD l)) 0] := by simp [pureL, pureD, tys_pure]
    have hI : ∀ k n nm ls ks, rngT (.mk k n nm ls ks) → CP (TT ()) 70 (tyD (.mk k n nm ls ks) :: [.pe (.raw (.int .i64 fr)) 0, .pe (.sl none 5 (tysD l)) 0]) (· = insP (openF fr l k n nm)) := fun k n nm ls ks hg => open1_cp fr l hfr (by omega) h k n hg.1 nm ls ks
    have hok : ∀ k n nm u, openF fr l k n nm = some u → okT u := fun k n nm u e => by
      unfold openF nth? at e
      split at e
      · split at e
        · exact okL_get hlo u (List.mem_of_getElem? e)
        · cases e
      · cases e
    exact pfitting_cp _ _ hcap (openF fr l) t (left_cp _ _ hcap _ rngT hG hI hok t hr (by omega) 300 (by omega) (by omega)) (fun _ => made_cp _ _ hcap _ rngT hG hI t hr (by omega))
  have hin : 0 ≤ fr ∧ fr ≤ 1073741824 → openR fr l t = openT fr l t := fun h => if_pos h
  have hout : ¬ (0 ≤ fr ∧ fr ≤ 1073741824) → openR fr l t = openT fr [] t := fun h => (if_neg h).trans (tr_id (fun k n nm => by
    unfold openF nth?
    split
    · split
      · simp
      · rfl
    · rfl) t).symm
  have hpf := fun u => fitP_pure u
  refine c4_runW (fitP_pure _) fun Q hQ => ?_
  have hQ := fun h' => hQ _ h' (.refl _)
  have c1 := fun h : 0 ≤ fr ∧ fr ≤ 1073741824 => main l hl hlo (.inl h)
  have c2 := main [] (by simp) trivial (.inr rfl)
  have q1 : 0 ≤ fr ∧ fr ≤ 1073741824 → ∀ h', Q (fitP (openT fr l t)) h' := fun h => hin h ▸ hQ
  have q2 : ¬ (0 ≤ fr ∧ fr ≤ 1073741824) → ∀ h', Q (fitP (openT fr [] t)) h' := fun h => hout h ▸ hQ
  clear hQ main hin hout hG
  have hp := ty_pure t
  have hLp := tys_pure l
  have p1 := hpf (openT fr l t)
  have p2 := hpf (openT fr [] t)
  unfold fitP at c1 c2 q1 q2 p1 p2
  generalize fitB (openT fr l t) = b1 at c1 q1 p1
  generalize fitT (openT fr l t) = u1 at c1 q1 p1
  generalize fitB (openT fr [] t) = b2 at c2 q2 p2
  generalize fitT (openT fr [] t) = u2 at c2 q2 p2
  obtain ⟨k0, n0, m0, L0, K0, f0, _, _⟩ := c4_node t
  obtain ⟨k1, n1, m1, L1, K1, f1, _, _⟩ := c4_node u1
  obtain ⟨k2, n2, m2, L2, K2, f2, _, _⟩ := c4_node u2
  rw [f0] at c1 c2 hp ⊢
  rw [f1] at c1 q1 p1
  rw [f2] at c2 q2 p2
  unfold chD at c1 c2
  simp only [tysD] at c2
  generalize tysD l = LL at c1 hLp ⊢
  clear hpf
  cbv
  (repeat'((first|(apply zS;kernel_rfl)|(apply zD;decide +kernel)|(apply zE;decide +kernel)|(apply zF;decide +kernel)|(apply zL;decide +kernel)|(apply zM;decide +kernel)|(apply zN;intros)|(apply zO;intros)|(apply zT;omega)|(apply zU;omega)|(apply zP;omega;intros)|(apply zQ;omega;intros)|apply zR);cbv))
  refine BinK.lss ?_ ?_ <;> intro h0 <;> cbv <;> (repeat'((first|(apply zS;kernel_rfl)|(apply zD;decide +kernel)|(apply zE;decide +kernel)|(apply zF;decide +kernel)|(apply zL;decide +kernel)|(apply zM;decide +kernel)|(apply zN;intros)|(apply zO;intros)|(apply zT;omega)|(apply zU;omega)|(apply zP;omega;intros)|(apply zQ;omega;intros)|apply zR);cbv))
  rotate_left
  refine BinK.gtr ?_ ?_ <;> intro h1 <;> cbv <;> (repeat'((first|(apply zS;kernel_rfl)|(apply zD;decide +kernel)|(apply zE;decide +kernel)|(apply zF;decide +kernel)|(apply zL;decide +kernel)|(apply zM;decide +kernel)|(apply zN;intros)|(apply zO;intros)|(apply zT;omega)|(apply zU;omega)|(apply zP;omega;intros)|(apply zQ;omega;intros)|apply zR);cbv))
  rotate_left
  · have c1 := c1 ⟨h0, h1⟩
    have q1 := q1 ⟨h0, h1⟩
    refine CallK.still 1 rfl (.inr rfl) ?_
    refine CallK.still 2 rfl (.inr rfl) ?_
    refine CallK.one c1 (by simp [fzL, fzD, pureL, pureD] at hp ⊢; simp [hp, hLp]) p1 ?_
    cbv
    (repeat'((first|(apply zS;kernel_rfl)|(apply zD;decide +kernel)|(apply zE;decide +kernel)|(apply zF;decide +kernel)|(apply zL;decide +kernel)|(apply zM;decide +kernel)|(apply zN;intros)|(apply zO;intros)|(apply zT;omega)|(apply zU;omega)|(apply zP;omega;intros)|(apply zQ;omega;intros)|apply zR);cbv))
    exact ⟨q1 _⟩
  all_goals
    have q2 := q2 (by omega)
    refine CallK.cellw 2 0 (.sl none 5 []) rfl rfl (nil_any 5) ?_
    refine CallK.still 1 rfl (.inr rfl) ?_
    refine CallK.still 2 rfl (.inr rfl) ?_
    refine CallK.one c2 (by simp [fzL, fzD, pureL, pureD] at hp ⊢; simp [hp]) p2 ?_
    cbv
    (repeat'((first|(apply zS;kernel_rfl)|(apply zD;decide +kernel)|(apply zE;decide +kernel)|(apply zF;decide +kernel)|(apply zL;decide +kernel)|(apply zM;decide +kernel)|(apply zN;intros)|(apply zO;intros)|(apply zT;omega)|(apply zU;omega)|(apply zP;omega;intros)|(apply zQ;omega;intros)|apply zR);cbv))
    exact ⟨q2 _⟩
set_option maxRecDepth 20000 in
set_option maxHeartbeats 4000000 in
theorem pall_run (m : List Bd) (l : List Ty5) (hl : l.length ≤ 1000000)
    (hc : ∀ t ∈ l, CP (TT ()) 37 [tyD t, .sl none 6 (bnsD m)] (· = fitP (putT m t))) (Q : D → H → Prop) (hQ : ∀ d h', Wk d (allP m l) → Q d h') :
    wfun TT 39 [.sl none 5 (tysD l), .sl none 6 (bnsD m)] [] Q := by
  have hBp := bns_pure m
  have hBi := bns_idb m
  have hKi := tys_idb l
  have hKl := tys_len l
  have hKat := fun i => tys_at (ks := l) (i := i)
  have hno : ∀ t ∈ l, fitB (putT m t) = false → ∀ h', Q (.tup [.raw (.slice none 0 0), .raw (.bool false)]) h' := fun t ht hf h' => hQ _ h' (by
    have hb : allB m l = false := by
      unfold allB
      rw [List.all_eq_false]
      exact ⟨t, ht, by rw [hf]; decide⟩
    unfold allP allT
    rw [hb]
    exact .tup (.cons (nil_any 5) (.refl _)))
  have hyes : (∀ (j : Nat) (t : Ty5), l[j]? = some t → fitB (putT m t) = true) → ∀ tag h', Q (.tup [.sl tag 5 (tysD (l.map (putT m))), .raw (.bool true)]) h' := fun h tag h' => hQ _ h' (by
    have hb : allB m l = true := by
      unfold allB
      rw [List.all_eq_true]
      intro t ht
      obtain ⟨j, hj, rfl⟩ := List.getElem_of_mem ht
      exact h j _ (List.getElem?_eq_getElem hj)
    unfold allP allT
    rw [hb]
    exact .tup (.cons (untag_any _ _ _) (.refl _)))
  clear hQ
  generalize bnsD m = BS at hBi hBp hc ⊢
  generalize tysD l = KS at hKi hKl hKat ⊢
  cbv
  (repeat'((first|(apply zS;kernel_rfl)|(apply zD;decide +kernel)|(apply zE;decide +kernel)|(apply zF;decide +kernel)|(apply zL;decide +kernel)|(apply zM;decide +kernel)|(apply zN;intros)|(apply zO;intros)|(apply zT;omega)|(apply zU;omega)|(apply zP;omega;intros)|(apply zQ;omega;intros)|apply zR);cbv))
  refine LoopK.log 6 25 5 rfl ?_
  refine LoopK.put (X := Int × List D × Nat) (fun x => [(6, .sl (some 0) 5 x.2.1), (13, .raw (.int .i64 x.1))]) (fun x => [(0, .log 25 5 x.2.2)]) (fun x => l.length - x.1.toNat)
    (fun x => 0 ≤ x.1 ∧ x.1.toNat ≤ l.length ∧ x.2.1 = tysD ((l.take x.1.toNat).map (putT m)) ∧ x.2.2 = x.2.1.length ∧ ∀ (j : Nat) (t : Ty5), j < x.1.toNat → l[j]? = some t → fitB (putT m t) = true) (0, [], 0) ⟨by simp, by simp, rfl, rfl, fun j t hj => absurd hj (Nat.not_lt_zero _)⟩ rfl rfl ?_
  rintro ⟨i, L, nl⟩ N ⟨h0, hi, hL, hnl, hj⟩ hN
  simp only at h0 hi hL hnl hj hN ⊢
  have hLl : L.length = i.toNat := by rw [hL, tys_len]; simp; omega
  cbv
  (repeat'((first|(apply zS;kernel_rfl)|(apply zD;decide +kernel)|(apply zE;decide +kernel)|(apply zF;decide +kernel)|(apply zL;decide +kernel)|(apply zM;decide +kernel)|(apply zN;intros)|(apply zO;intros)|(apply zT;omega)|(apply zU;omega)|(apply zP;omega;intros)|(apply zQ;omega;intros)|apply zR);cbv))
  refine BinK.lss ?_ ?_ <;> intro hlt <;> cbv <;> (repeat'((first|(apply zS;kernel_rfl)|(apply zD;decide +kernel)|(apply zE;decide +kernel)|(apply zF;decide +kernel)|(apply zL;decide +kernel)|(apply zM;decide +kernel)|(apply zN;intros)|(apply zO;intros)|(apply zT;omega)|(apply zU;omega)|(apply zP;omega;intros)|(apply zQ;omega;intros)|apply zR);cbv))
  · obtain ⟨t, ht, hK⟩ := hKat i.toNat (by omega)
    have htm := List.mem_of_getElem? ht
    have hct := hc t htm
    have hno := hno t htm
    have hpt := ty_pure t
    have hpf := fitP_pure (putT m t)
    unfold fitP at hct hpf
    have hgo : fitB (putT m t) = true → fitT (putT m t) = putT m t ∧ ∀ r : Int, r = i + 1 → (∀ (j : Nat) (t : Ty5), j < r.toNat → l[j]? = some t → fitB (putT m t) = true) ∧ tysD ((l.take r.toNat).map (putT m)) = L ++ [tyD (putT m t)] := fun hf => ⟨fit_yes hf, fun r hr => ⟨fun j u hjr hu => by
        by_cases hji : j = i.toNat
        · rw [hji, ht] at hu
          cases hu
          exact hf
        · exact hj j u (by omega) hu, by
        have htake : l.take (i.toNat + 1) = l.take i.toNat ++ [t] := by
          obtain ⟨h1, h2⟩ := List.getElem?_eq_some_iff.1 ht
          rw [List.take_succ_eq_append_getElem h1, h2]
        rw [hL, show r.toNat = i.toNat + 1 by omega, htake]
        simp [tysD_map]⟩⟩
    clear hc hyes hL hj
    generalize putT m t = u at hct hpf hno hgo
    rcases hb : fitB u with _ | _
    · rw [hb] at hct hpf
      have hno := hno hb
      generalize fitT u = v at hct hpf
      obtain ⟨k0, n0, m0, L0, K0, f0, _, _⟩ := c4_node t
      obtain ⟨k1, n1, m1, L1, K1, f1, _, _⟩ := c4_node v
      rw [f0] at hct hpt hK
      rw [f1] at hct hpf
      refine IdxK.intro h0 hK ?_
      cbv
      (repeat'((first|(apply zS;kernel_rfl)|(apply zD;decide +kernel)|(apply zE;decide +kernel)|(apply zF;decide +kernel)|(apply zL;decide +kernel)|(apply zM;decide +kernel)|(apply zN;intros)|(apply zO;intros)|(apply zT;omega)|(apply zU;omega)|(apply zP;omega;intros)|(apply zQ;omega;intros)|apply zR);cbv))
      refine .one hct (cons_pure hpt (by simp [pureL, pureD, hBp])) hpf ?_
      cbv
      (repeat'((first|(apply zS;kernel_rfl)|(apply zD;decide +kernel)|(apply zE;decide +kernel)|(apply zF;decide +kernel)|(apply zL;decide +kernel)|(apply zM;decide +kernel)|(apply zN;intros)|(apply zO;intros)|(apply zT;omega)|(apply zU;omega)|(apply zP;omega;intros)|(apply zQ;omega;intros)|apply zR);cbv))
      exact ⟨hno _⟩
    · obtain ⟨e1, hgo⟩ := hgo hb
      rw [hb, e1] at hct hpf
      obtain ⟨k0, n0, m0, L0, K0, f0, i0, j0⟩ := c4_node t
      obtain ⟨k1, n1, m1, L1, K1, f1, i1, j1⟩ := c4_node u
      clear i0 j0 i1 j1 hno hb e1
      rw [f0] at hct hpt hK
      rw [f1] at hct hpf hgo
      refine IdxK.intro h0 hK ?_
      cbv
      (repeat'((first|(apply zS;kernel_rfl)|(apply zD;decide +kernel)|(apply zE;decide +kernel)|(apply zF;decide +kernel)|(apply zL;decide +kernel)|(apply zM;decide +kernel)|(apply zN;intros)|(apply zO;intros)|(apply zT;omega)|(apply zU;omega)|(apply zP;omega;intros)|(apply zQ;omega;intros)|apply zR);cbv))
      refine .one hct (cons_pure hpt (by simp [pureL, pureD, hBp])) hpf ?_
      cbv
      (repeat'((first|(apply zS;kernel_rfl)|(apply zD;decide +kernel)|(apply zE;decide +kernel)|(apply zF;decide +kernel)|(apply zL;decide +kernel)|(apply zM;decide +kernel)|(apply zN;intros)|(apply zO;intros)|(apply zT;omega)|(apply zU;omega)|(apply zP;omega;intros)|(apply zQ;omega;intros)|apply zR);cbv))
      refine AppK.sl el_tys el_tys rfl hnl (by simp only [List.length_cons, List.length_nil]; omega) ?_
      intro L' nl' hL' hnl'
      cbv
      (repeat'((first|(apply zS;kernel_rfl)|(apply zD;decide +kernel)|(apply zE;decide +kernel)|(apply zF;decide +kernel)|(apply zL;decide +kernel)|(apply zM;decide +kernel)|(apply zN;intros)|(apply zO;intros)|(apply zT;omega)|(apply zU;omega)|(apply zP;omega;intros)|(apply zQ;omega;intros)|apply zR);cbv))
      rename_i r hr
      obtain ⟨g1, g2⟩ := hgo r hr
      have hL2 : L' = tysD ((l.take r.toNat).map (putT m)) := by rw [g2]; exact hL'
      have hLi2 : ∀ k, idbL k L' = true := fun k => pure_idbL k _ (by rw [hL2]; exact tys_pure _)
      refine RoundK.forget (r, L', nl') ⟨by omega, by omega, hL2, hnl', g1⟩ (by omega) rfl rfl ?_ ?_
      · simp [idbL, idb, hBi, hKi, hLi2]
      · simp [cellIdb]
  · have hall : l.take i.toNat = l := List.take_of_length_le (by omega)
    rw [hall] at hL
    subst hL
    exact ⟨hyes (fun j t ht => hj j t (by have := (List.getElem?_eq_some_iff.1 ht).1; omega) ht) _ _⟩
theorem pall_cp (m : List Bd) (hm : m.length ≤ 1000) (hmo : okB m) (l : List Ty5) (hl : l.length ≤ 1000) (hn : ∀ t ∈ l, nodesT t ≤ 100000) : CP (TT ()) 39 [.sl none 5 (tysD l), .sl none 6 (bnsD m)] (· = allP m l) :=
  c4_runW (allP_pure m l) fun Q hQ => pall_run m l (by omega) (fun t ht => pput_cp m hm hmo t (hn t ht)) Q hQ
/-! ### awake -/
theorem zero5_wk (k : Int) : Wk (.agg [.raw (.int .i64 k), .raw (.int .i64 0), .raw (.string ⟨#[]⟩), .raw (.slice none 0 0), .raw (.slice none 0 0)]) (tyD (.mk k 0 ⟨#[]⟩ [] [])) := .agg (.cons (.refl _) (.cons (.refl _) (.cons (.refl _) (.cons (nil_any 1) (.cons (nil_any 5) .nil)))))
theorem var_cp (s : ByteArray) : CP (TT ()) 62 [.raw (.string s)] (· = tyD (.mk 6 0 s [] [])) := by
  refine c4_runW (ty_pure _) fun Q hQ => ?_
  have hQ := fun h' => hQ (.agg [.raw (.int .i64 6), .raw (.int .i64 0), .raw (.string s), .raw (.slice none 0 0), .raw (.slice none 0 0)]) h' (.agg (.cons (.refl _) (.cons (.refl _) (.cons (.refl _) (.cons (nil_any 1) (.cons (nil_any 5) .nil))))))
  cbv
  (repeat'((first|(apply zS;kernel_rfl)|(apply zD;decide +kernel)|(apply zE;decide +kernel)|(apply zF;decide +kernel)|(apply zL;decide +kernel)|(apply zM;decide +kernel)|(apply zN;intros)|(apply zO;intros)|(apply zT;omega)|(apply zU;omega)|(apply zP;omega;intros)|(apply zQ;omega;intros)|apply zR);cbv))
  exact ⟨hQ _⟩
theorem simple_cp (k : Int) : CP (TT ()) 63 [.raw (.int .i64 k)] (· = tyD (.mk k 0 ⟨#[]⟩ [] [])) := by
  refine c4_runW (ty_pure _) fun Q hQ => ?_
  have hQ := fun h' => hQ _ h' (zero5_wk k)
  cbv
  (repeat'((first|(apply zS;kernel_rfl)|(apply zD;decide +kernel)|(apply zE;decide +kernel)|(apply zF;decide +kernel)|(apply zL;decide +kernel)|(apply zM;decide +kernel)|(apply zN;intros)|(apply zO;intros)|(apply zT;omega)|(apply zU;omega)|(apply zP;omega;intros)|(apply zQ;omega;intros)|apply zR);cbv))
  exact ⟨hQ _⟩
theorem fun_cp (a b : Ty5) : CP (TT ()) 34 [tyD a, tyD b] (· = tyD (.mk 7 0 ⟨#[]⟩ [] [a, b])) := by
  refine c4_runW (ty_pure _) fun Q hQ => ?_
  have hQ := fun tag h' => hQ (.agg [.raw (.int .i64 7), .raw (.int .i64 0), .raw (.string ⟨#[]⟩), .raw (.slice none 0 0), .sl tag 5 [tyD a, tyD b]]) h' (.agg (.cons (.refl _) (.cons (.refl _) (.cons (.refl _) (.cons (nil_any 1) (.cons (untag_any _ _ _) .nil))))))
  obtain ⟨k1, n1, m1, L1, K1, f1, _, _⟩ := c4_node a
  obtain ⟨k2, n2, m2, L2, K2, f2, _, _⟩ := c4_node b
  rw [f1, f2] at hQ ⊢
  cbv
  (repeat'((first|(apply zS;kernel_rfl)|(apply zD;decide +kernel)|(apply zE;decide +kernel)|(apply zF;decide +kernel)|(apply zL;decide +kernel)|(apply zM;decide +kernel)|(apply zN;intros)|(apply zO;intros)|(apply zT;omega)|(apply zU;omega)|(apply zP;omega;intros)|(apply zQ;omega;intros)|apply zR);cbv))
  exact ⟨hQ _ _⟩
def xB : ByteArray := ⟨#[88]⟩
def yB : ByteArray := ⟨#[89]⟩
def zB : ByteArray := ⟨#[90]⟩
def v5 (s : ByteArray) : Ty5 := .mk 6 0 s [] []
def s5 (k : Int) : Ty5 := .mk k 0 ⟨#[]⟩ [] []
theorem aw_put : CP (TT ()) 37 [tyD (.mk 7 0 ⟨#[]⟩ [] [v5 xB, v5 yB]), .sl none 6 (bnsD [(xB, s5 1)])] (· = .tup [tyD (.mk 7 0 ⟨#[]⟩ [] [s5 1, v5 yB]), .raw (.bool true)]) := by
  have c := pput_cp [(xB, s5 1)] (by decide) (by simp [okB, okT, okT.okL, s5, xB]; decide) (.mk 7 0 ⟨#[]⟩ [] [v5 xB, v5 yB]) (by decide)
  rwa [show fitP (putT [(xB, s5 1)] (.mk 7 0 ⟨#[]⟩ [] [v5 xB, v5 yB])) = .tup [tyD (.mk 7 0 ⟨#[]⟩ [] [s5 1, v5 yB]), .raw (.bool true)] by kernel_rfl] at c
theorem aw_seal : CP (TT ()) 45 [tyD (v5 xB), .sl none 1 ([zB, xB].map strD), .raw (.int .i64 3)] (· = tyD (.mk 9 4 ⟨#[]⟩ [] [])) := by
  have c := pseal_cp [zB, xB] 3 (v5 xB) (by decide) (by decide) (by decide)
  rwa [show tyD (sealR [zB, xB] 3 (v5 xB)) = tyD (.mk 9 4 ⟨#[]⟩ [] []) by kernel_rfl] at c
theorem aw_open : CP (TT ()) 43 [tyD (.mk 9 4 ⟨#[]⟩ [] []), .raw (.int .i64 3), .sl none 5 (tysD [v5 xB, s5 1])] (· = .tup [tyD (s5 1), .raw (.bool true)]) := by
  have c := popen_cp 3 [v5 xB, s5 1] (.mk 9 4 ⟨#[]⟩ [] []) (by decide) (by simp [okT, okT.okL, s5, v5, xB]; decide) (by decide) (by simp [rngT, rngL]) (by decide)
  rwa [show fitP (openR 3 [v5 xB, s5 1] (.mk 9 4 ⟨#[]⟩ [] [])) = .tup [tyD (s5 1), .raw (.bool true)] by kernel_rfl] at c
set_option maxRecDepth 20000 in
set_option maxHeartbeats 4000000 in
theorem pawake_cp : CP (TT ()) 36 [] (· = .raw (.bool true)) := by
  refine c4_run fun Q hQ => ?_
  have c1 := var_cp xB
  have c2 := simple_cp 1
  have c3 := var_cp yB
  have c4 := fun_cp (v5 xB) (v5 yB)
  have c5 := aw_put
  have c6 := aw_seal
  have c7 := aw_open
  simp only [bnsD, bnD, tyD, tysD, List.map_cons, List.map_nil, strD, v5, s5, xB, yB, zB] at c1 c2 c3 c4 c5 c6 c7
  cbv
  (repeat'((first|(apply zS;kernel_rfl)|(apply zD;decide +kernel)|(apply zE;decide +kernel)|(apply zF;decide +kernel)|(apply zL;decide +kernel)|(apply zM;decide +kernel)|(apply zN;intros)|(apply zO;intros)|(apply zT;omega)|(apply zU;omega)|(apply zP;omega;intros)|(apply zQ;omega;intros)|apply zR);cbv))
  refine .one c1 rfl rfl ?_
  cbv
  (repeat'((first|(apply zS;kernel_rfl)|(apply zD;decide +kernel)|(apply zE;decide +kernel)|(apply zF;decide +kernel)|(apply zL;decide +kernel)|(apply zM;decide +kernel)|(apply zN;intros)|(apply zO;intros)|(apply zT;omega)|(apply zU;omega)|(apply zP;omega;intros)|(apply zQ;omega;intros)|apply zR);cbv))
  refine .one c2 rfl rfl ?_
  cbv
  (repeat'((first|(apply zS;kernel_rfl)|(apply zD;decide +kernel)|(apply zE;decide +kernel)|(apply zF;decide +kernel)|(apply zL;decide +kernel)|(apply zM;decide +kernel)|(apply zN;intros)|(apply zO;intros)|(apply zT;omega)|(apply zU;omega)|(apply zP;omega;intros)|(apply zQ;omega;intros)|apply zR);cbv))
  refine .one c3 rfl rfl ?_
  cbv
  (repeat'((first|(apply zS;kernel_rfl)|(apply zD;decide +kernel)|(apply zE;decide +kernel)|(apply zF;decide +kernel)|(apply zL;decide +kernel)|(apply zM;decide +kernel)|(apply zN;intros)|(apply zO;intros)|(apply zT;omega)|(apply zU;omega)|(apply zP;omega;intros)|(apply zQ;omega;intros)|apply zR);cbv))
  refine .one c4 rfl rfl ?_
  cbv
  (repeat'((first|(apply zS;kernel_rfl)|(apply zD;decide +kernel)|(apply zE;decide +kernel)|(apply zF;decide +kernel)|(apply zL;decide +kernel)|(apply zM;decide +kernel)|(apply zN;intros)|(apply zO;intros)|(apply zT;omega)|(apply zU;omega)|(apply zP;omega;intros)|(apply zQ;omega;intros)|apply zR);cbv))
  refine .one c5 rfl rfl ?_
  cbv
  (repeat'((first|(apply zS;kernel_rfl)|(apply zD;decide +kernel)|(apply zE;decide +kernel)|(apply zF;decide +kernel)|(apply zL;decide +kernel)|(apply zM;decide +kernel)|(apply zN;intros)|(apply zO;intros)|(apply zT;omega)|(apply zU;omega)|(apply zP;omega;intros)|(apply zQ;omega;intros)|apply zR);cbv))
  refine .one c6 rfl rfl ?_
  cbv
  (repeat'((first|(apply zS;kernel_rfl)|(apply zD;decide +kernel)|(apply zE;decide +kernel)|(apply zF;decide +kernel)|(apply zL;decide +kernel)|(apply zM;decide +kernel)|(apply zN;intros)|(apply zO;intros)|(apply zT;omega)|(apply zU;omega)|(apply zP;omega;intros)|(apply zQ;omega;intros)|apply zR);cbv))
  refine .one c7 rfl rfl ?_
  cbv
  (repeat'((first|(apply zS;kernel_rfl)|(apply zD;decide +kernel)|(apply zE;decide +kernel)|(apply zF;decide +kernel)|(apply zL;decide +kernel)|(apply zM;decide +kernel)|(apply zN;intros)|(apply zO;intros)|(apply zT;omega)|(apply zU;omega)|(apply zP;omega;intros)|(apply zQ;omega;intros)|apply zR);cbv))
  refine IdxK.intro (by decide) rfl ?_
  cbv
  (repeat'((first|(apply zS;kernel_rfl)|(apply zD;decide +kernel)|(apply zE;decide +kernel)|(apply zF;decide +kernel)|(apply zL;decide +kernel)|(apply zM;decide +kernel)|(apply zN;intros)|(apply zO;intros)|(apply zT;omega)|(apply zU;omega)|(apply zP;omega;intros)|(apply zQ;omega;intros)|apply zR);cbv))
  refine IdxK.intro (by decide) rfl ?_
  cbv
  (repeat'((first|(apply zS;kernel_rfl)|(apply zD;decide +kernel)|(apply zE;decide +kernel)|(apply zF;decide +kernel)|(apply zL;decide +kernel)|(apply zM;decide +kernel)|(apply zN;intros)|(apply zO;intros)|(apply zT;omega)|(apply zU;omega)|(apply zP;omega;intros)|(apply zQ;omega;intros)|apply zR);cbv))
  exact ⟨hQ _⟩
theorem subP : SubP where
  awake := pawake_cp
  put := fun m t hm hmo _ hn _ => pput_cp m hm hmo t hn
  all := fun m l hm hmo hl _ hn => pall_cp m hm hmo l hl fun t ht => (hn t ht).1
  seals := fun names fr t hnl _ hfr _ hn => pseal_cp names fr t hnl hfr hn
  opens := fun fr l t hl hlo hfr _ hr hn _ => popen_cp fr l t hl hlo hfr hr hn
end Go.Proofs.Ytbfmaicoefefaaa

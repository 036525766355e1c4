/- SubstTwice, run over any data, of whatever size: counts that wrap round do no harm. -/
import Derived.Test.YtbfmaicoefefaaaSbScr
import Derived.Test.YtbfmaicoefefaaaSbJ
import Derived.Test.YtbfmaicoefefaaaPwCw
set_option linter.unusedSimpArgs false
set_option linter.unusedVariables false
namespace Go.Proofs.Ytbfmaicoefefaaa
open Go.RowKit Pv
set_option maxRecDepth 100000
set_option maxRecDepth 20000 in
set_option maxHeartbeats 4000000 in
theorem twicew_run (t : Ty5) (m n : List Bd) (ht : okT t) (hm : okB m) (hn : okB n) (Q : D → H → Prop) (hQ : ∀ h', Q (.raw (.bool true)) h') :
    wfun TT 10 [tyD t, .sl none 6 (bnsD m), .sl none 6 (bnsD n)] [] Q := by
  have cA := pawake_cp
  have cM := muchw_cp t ht
  have cF := fewq_cp m hm
  have cG := fewq_cp n hn
  have main : m.length ≤ 20 → n.length ≤ 20 →
      CP (TT ()) 37 [tyD t, .sl none 6 (bnsD m)] (· = fitP (putT m t)) ∧ CP (TT ()) 37 [tyD (fitT (putT m t)), .sl none 6 (bnsD n)] (· = fitP (putT n (fitT (putT m t)))) ∧
      (∀ p ∈ m, CP (TT ()) 37 [tyD p.2, .sl none 6 (bnsD n)] (· = fitP (putT n p.2))) ∧
      (fitB (putT m t) = true → fitB (putT n (fitT (putT m t))) = true → CP (TT ()) 37 [tyD t, .sl none 6 (bnsD (bothT n m ++ n))] (· = .tup [tyD (fitT (putT n (fitT (putT m t)))), .raw (.bool true)])) ∧
      CP (TT ()) 27 [tyD (fitT (putT n (fitT (putT m t)))), tyD (fitT (putT n (fitT (putT m t))))] (· = .raw (.bool true)) := fun h2 h3 => by
    have hao : okT (fitT (putT m t)) := fit_ok (put_ok hm ht)
    have hbo : okT (fitT (putT n (fitT (putT m t)))) := fit_ok (put_ok hn hao)
    have cS := sameq_cp _ _ hbo hbo
    rw [same_refl] at cS
    refine ⟨pput_any m (by omega) hm t, pput_any n (by omega) hn _, fun p hp => pput_any n (by omega) hn p.2, fun e1 e2 => ?_, cS⟩
    · have e3 : putT (bothT n m ++ n) t = putT n (fitT (putT m t)) := by
        rw [fit_yes e1, put_put]
        rfl
      have hob : okB (bothT n m ++ n) := fun p hp => by
        rcases List.mem_append.1 hp with hp | hp
        · obtain ⟨q, hq, rfl⟩ := List.mem_map.1 hp
          exact ⟨(hm q hq).1, put_ok hn (hm q hq).2⟩
        · exact hn p hp
      have c := pput_any (bothT n m ++ n) (by rw [List.length_append, bothT, List.length_map]; omega) hob t
      rw [e3] at c
      unfold fitP at c
      rw [e2] at c
      exact c
  have hp := ty_pure t
  have hBp := bns_pure m
  have hBl := bns_len m
  have hBi := bns_idb m
  have hat := fun i => bns_at (m := m) (i := i)
  have hCp := bns_pure n
  have hCi := bns_idb n
  have hCl := bns_len n
  have hf := fitP_pure (putT m t)
  have hg := fitP_pure (putT n (fitT (putT m t)))
  have hf1 := ty_pure (fitT (putT m t))
  have hg1 := ty_pure (fitT (putT n (fitT (putT m t))))
  generalize muchW t = zt at cM
  have happ : ∀ L : List D, bnsD (L.map fun _ => (⟨#[]⟩, ty0)) = bnsD (L.map fun _ => (⟨#[]⟩, ty0)) := fun _ => rfl
  clear happ
  unfold fitP at hf hg
  have hfp : fitP (putT m t) = .tup [tyD (fitT (putT m t)), .raw (.bool (fitB (putT m t)))] := rfl
  have hgp : fitP (putT n (fitT (putT m t))) = .tup [tyD (fitT (putT n (fitT (putT m t)))), .raw (.bool (fitB (putT n (fitT (putT m t)))))] := rfl
  rw [hfp, hgp] at main
  clear hfp hgp
  generalize fitB (putT n (fitT (putT m t))) = b2 at hg main
  generalize fitT (putT n (fitT (putT m t))) = t2 at hg hg1 main
  generalize fitB (putT m t) = b1 at hf main
  generalize fitT (putT m t) = t1 at hf hf1 main
  have happ : bnsD (bothT n m ++ n) = bnsD (bothT n m) ++ bnsD n := bns_app _ _
  rw [happ] at main
  clear happ
  have hput : ∀ p ∈ m, fitP (putT n p.2) = .tup [tyD (fitT (putT n p.2)), .raw (.bool (fitB (putT n p.2)))] := fun p _ => rfl
  generalize bnsD m = BS at cF hBp hBi hBl hat main ⊢
  generalize hCn : bnsD n = CS at cG hCp hCi hCl main ⊢
  obtain ⟨k, x, nm, L, K, f0, i0, j0⟩ := c4_node t
  obtain ⟨k1, x1, nm1, L1', K1, f1, i1, j1⟩ := c4_node t1
  obtain ⟨k2, x2, nm2, L2', K2, f2, i2, j2⟩ := c4_node t2
  rw [f0] at cM hp ⊢
  rw [f0, f1, f2] at main
  rw [f1] at hf hf1
  rw [f2] at hg hg1
  clear f0 f1 f2 ht
  cbv
  (repeat'((first|(apply zS;kernel_rfl)|(apply zD;decide +kernel)|(apply zE;decide +kernel)|(apply zF;decide +kernel)|(apply zL;decide +kernel)|(apply zM;decide +kernel)|(apply zN;intros)|(apply zO;intros)|(apply zT;omega)|(apply zU;omega)|(apply zP;omega;intros)|(apply zQ;omega;intros)|apply zR);cbv))
  refine .one cM (cons_pure hp rfl) rfl ?_
  cbv
  (repeat'((first|(apply zS;kernel_rfl)|(apply zD;decide +kernel)|(apply zE;decide +kernel)|(apply zF;decide +kernel)|(apply zL;decide +kernel)|(apply zM;decide +kernel)|(apply zN;intros)|(apply zO;intros)|(apply zT;omega)|(apply zU;omega)|(apply zP;omega;intros)|(apply zQ;omega;intros)|apply zR);cbv))
  refine BinK.gtr ?_ ?_ <;> intro h400 <;> cbv <;> (repeat'((first|(apply zS;kernel_rfl)|(apply zD;decide +kernel)|(apply zE;decide +kernel)|(apply zF;decide +kernel)|(apply zL;decide +kernel)|(apply zM;decide +kernel)|(apply zN;intros)|(apply zO;intros)|(apply zT;omega)|(apply zU;omega)|(apply zP;omega;intros)|(apply zQ;omega;intros)|apply zR);cbv))
  · refine .one cA rfl rfl ?_
    cbv
    (repeat'((first|(apply zS;kernel_rfl)|(apply zD;decide +kernel)|(apply zE;decide +kernel)|(apply zF;decide +kernel)|(apply zL;decide +kernel)|(apply zM;decide +kernel)|(apply zN;intros)|(apply zO;intros)|(apply zT;omega)|(apply zU;omega)|(apply zP;omega;intros)|(apply zQ;omega;intros)|apply zR);cbv))
    exact ⟨hQ _⟩
  refine CallK.pure cF (by simp [pureL, pureD, hBp]) ?_
  rintro d ⟨z, rfl, hz⟩
  refine ⟨rfl, ?_⟩
  cbv
  (repeat'((first|(apply zS;kernel_rfl)|(apply zD;decide +kernel)|(apply zE;decide +kernel)|(apply zF;decide +kernel)|(apply zL;decide +kernel)|(apply zM;decide +kernel)|(apply zN;intros)|(apply zO;intros)|(apply zT;omega)|(apply zU;omega)|(apply zP;omega;intros)|(apply zQ;omega;intros)|apply zR);cbv))
  refine BinK.gtr ?_ ?_ <;> intro hz1 <;> cbv <;> (repeat'((first|(apply zS;kernel_rfl)|(apply zD;decide +kernel)|(apply zE;decide +kernel)|(apply zF;decide +kernel)|(apply zL;decide +kernel)|(apply zM;decide +kernel)|(apply zN;intros)|(apply zO;intros)|(apply zT;omega)|(apply zU;omega)|(apply zP;omega;intros)|(apply zQ;omega;intros)|apply zR);cbv))
  · refine .one cA rfl rfl ?_
    cbv
    (repeat'((first|(apply zS;kernel_rfl)|(apply zD;decide +kernel)|(apply zE;decide +kernel)|(apply zF;decide +kernel)|(apply zL;decide +kernel)|(apply zM;decide +kernel)|(apply zN;intros)|(apply zO;intros)|(apply zT;omega)|(apply zU;omega)|(apply zP;omega;intros)|(apply zQ;omega;intros)|apply zR);cbv))
    exact ⟨hQ _⟩
  refine CallK.pure cG (by simp [pureL, pureD, hCp]) ?_
  rintro d ⟨z', rfl, hz'⟩
  refine ⟨rfl, ?_⟩
  cbv
  (repeat'((first|(apply zS;kernel_rfl)|(apply zD;decide +kernel)|(apply zE;decide +kernel)|(apply zF;decide +kernel)|(apply zL;decide +kernel)|(apply zM;decide +kernel)|(apply zN;intros)|(apply zO;intros)|(apply zT;omega)|(apply zU;omega)|(apply zP;omega;intros)|(apply zQ;omega;intros)|apply zR);cbv))
  refine BinK.gtr ?_ ?_ <;> intro hz1' <;> cbv <;> (repeat'((first|(apply zS;kernel_rfl)|(apply zD;decide +kernel)|(apply zE;decide +kernel)|(apply zF;decide +kernel)|(apply zL;decide +kernel)|(apply zM;decide +kernel)|(apply zN;intros)|(apply zO;intros)|(apply zT;omega)|(apply zU;omega)|(apply zP;omega;intros)|(apply zQ;omega;intros)|apply zR);cbv))
  · refine .one cA rfl rfl ?_
    cbv
    (repeat'((first|(apply zS;kernel_rfl)|(apply zD;decide +kernel)|(apply zE;decide +kernel)|(apply zF;decide +kernel)|(apply zL;decide +kernel)|(apply zM;decide +kernel)|(apply zN;intros)|(apply zO;intros)|(apply zT;omega)|(apply zU;omega)|(apply zP;omega;intros)|(apply zQ;omega;intros)|apply zR);cbv))
    exact ⟨hQ _⟩
  have g1 := hz (by omega)
  have g1' := hz' (by omega)
  obtain ⟨c1, c2, c3, c4, c5⟩ := main g1 g1'
  clear main cM cF cG hz hz'
  refine .one c1 (cons_pure hp (by simp [pureL, pureD, hBp])) hf ?_
  cbv
  (repeat'((first|(apply zS;kernel_rfl)|(apply zD;decide +kernel)|(apply zE;decide +kernel)|(apply zF;decide +kernel)|(apply zL;decide +kernel)|(apply zM;decide +kernel)|(apply zN;intros)|(apply zO;intros)|(apply zT;omega)|(apply zU;omega)|(apply zP;omega;intros)|(apply zQ;omega;intros)|apply zR);cbv))
  refine .one c2 (cons_pure hf1 (by simp [pureL, pureD, hCp])) hg ?_
  rcases b1 with _ | _
  · cbv
    (repeat'((first|(apply zS;kernel_rfl)|(apply zD;decide +kernel)|(apply zE;decide +kernel)|(apply zF;decide +kernel)|(apply zL;decide +kernel)|(apply zM;decide +kernel)|(apply zN;intros)|(apply zO;intros)|(apply zT;omega)|(apply zU;omega)|(apply zP;omega;intros)|(apply zQ;omega;intros)|apply zR);cbv))
    refine .one cA rfl rfl ?_
    cbv
    (repeat'((first|(apply zS;kernel_rfl)|(apply zD;decide +kernel)|(apply zE;decide +kernel)|(apply zF;decide +kernel)|(apply zL;decide +kernel)|(apply zM;decide +kernel)|(apply zN;intros)|(apply zO;intros)|(apply zT;omega)|(apply zU;omega)|(apply zP;omega;intros)|(apply zQ;omega;intros)|apply zR);cbv))
    exact ⟨hQ _⟩
  rcases b2 with _ | _
  · cbv
    (repeat'((first|(apply zS;kernel_rfl)|(apply zD;decide +kernel)|(apply zE;decide +kernel)|(apply zF;decide +kernel)|(apply zL;decide +kernel)|(apply zM;decide +kernel)|(apply zN;intros)|(apply zO;intros)|(apply zT;omega)|(apply zU;omega)|(apply zP;omega;intros)|(apply zQ;omega;intros)|apply zR);cbv))
    refine .one cA rfl rfl ?_
    cbv
    (repeat'((first|(apply zS;kernel_rfl)|(apply zD;decide +kernel)|(apply zE;decide +kernel)|(apply zF;decide +kernel)|(apply zL;decide +kernel)|(apply zM;decide +kernel)|(apply zN;intros)|(apply zO;intros)|(apply zT;omega)|(apply zU;omega)|(apply zP;omega;intros)|(apply zQ;omega;intros)|apply zR);cbv))
    exact ⟨hQ _⟩
  have c4 := c4 rfl rfl
  cbv
  (repeat'((first|(apply zS;kernel_rfl)|(apply zD;decide +kernel)|(apply zE;decide +kernel)|(apply zF;decide +kernel)|(apply zL;decide +kernel)|(apply zM;decide +kernel)|(apply zN;intros)|(apply zO;intros)|(apply zT;omega)|(apply zU;omega)|(apply zP;omega;intros)|(apply zQ;omega;intros)|apply zR);cbv))
  refine LoopK.log 11 53 6 rfl ?_
  refine LoopK.put (X := Int × List D × Nat) (fun x => [(11, .sl (some 3) 6 x.2.1), (12, .raw (.int .i64 x.1))]) (fun x => [(3, .log 53 6 x.2.2)]) (fun x => m.length - x.1.toNat)
    (fun x => 0 ≤ x.1 ∧ x.1.toNat ≤ m.length ∧ x.2.1 = bnsD (bothT n (m.take x.1.toNat)) ∧ x.2.2 = x.2.1.length) (0, [], 0) ⟨by simp, by simp, rfl, rfl⟩ rfl rfl ?_
  rintro ⟨i, LL, nl⟩ N ⟨h0, hi, hL, hnl⟩ hN
  simp only at h0 hi hL hnl hN ⊢
  have hLl : LL.length = i.toNat := by rw [hL, bns_len, bothT, List.length_map, List.length_take]; omega
  cbv
  (repeat'((first|(apply zS;kernel_rfl)|(apply zD;decide +kernel)|(apply zE;decide +kernel)|(apply zF;decide +kernel)|(apply zL;decide +kernel)|(apply zM;decide +kernel)|(apply zN;intros)|(apply zO;intros)|(apply zT;omega)|(apply zU;omega)|(apply zP;omega;intros)|(apply zQ;omega;intros)|apply zR);cbv))
  refine BinK.lss ?_ ?_ <;> intro hlt <;> cbv
  · (repeat'((first|(apply zS;kernel_rfl)|(apply zD;decide +kernel)|(apply zE;decide +kernel)|(apply zF;decide +kernel)|(apply zL;decide +kernel)|(apply zM;decide +kernel)|(apply zN;intros)|(apply zO;intros)|(apply zT;omega)|(apply zU;omega)|(apply zP;omega;intros)|(apply zQ;omega;intros)|apply zR);cbv))
    obtain ⟨p, hp', hB⟩ := hat i.toNat (by omega)
    have hpm := List.mem_of_getElem? hp'
    have cp := c3 p hpm
    rw [hput p hpm] at cp
    have hpp := ty_pure p.2
    have hpf : pureD (D.tup [tyD (fitT (putT n p.2)), .raw (.bool (fitB (putT n p.2)))]) = some (D.tup [tyD (fitT (putT n p.2)), .raw (.bool (fitB (putT n p.2)))]) := fitP_pure (putT n p.2)
    have hgo : fitB (putT n p.2) = true → ∀ r : Int, r = i + 1 → bnsD (bothT n (m.take r.toNat)) = LL ++ [bnD (p.1, fitT (putT n p.2))] := fun hf r hr => by
      have htake : m.take (i.toNat + 1) = m.take i.toNat ++ [p] := by
        obtain ⟨h1, h2⟩ := List.getElem?_eq_some_iff.1 hp'
        rw [List.take_succ_eq_append_getElem h1, h2]
      rw [hL, show r.toNat = i.toNat + 1 by omega, htake, fit_yes hf]
      simp [bnsD, bothT]
    clear c3 c4 hL hput
    generalize fitB (putT n p.2) = bb at cp hpf hgo
    generalize fitT (putT n p.2) = u at cp hpf hgo
    obtain ⟨k3, x3, nm3, L3, K3, f0, f1, j1, j2⟩ := bn_node p
    obtain ⟨k4, x4, nm4, L4, K4, f4, i4, j4⟩ := c4_node u
    have hbo := bn_of p.1 u f4
    rw [hbo] at hgo
    rw [f1, f4] at cp
    rw [f1] at hpp
    rw [f4] at hpf
    rw [f0] at hB
    generalize p.1 = pn at hB hgo
    clear f0 f1 j1 j2 f4 i4 j4 hbo
    refine IdxK.intro h0 hB ?_
    cbv
    (repeat'((first|(apply zS;kernel_rfl)|(apply zD;decide +kernel)|(apply zE;decide +kernel)|(apply zF;decide +kernel)|(apply zL;decide +kernel)|(apply zM;decide +kernel)|(apply zN;intros)|(apply zO;intros)|(apply zT;omega)|(apply zU;omega)|(apply zP;omega;intros)|(apply zQ;omega;intros)|apply zR);cbv))
    refine .one cp (cons_pure hpp (by simp [pureL, pureD, hCp])) hpf ?_
    rcases bb with _ | _
    · cbv
      (repeat'((first|(apply zS;kernel_rfl)|(apply zD;decide +kernel)|(apply zE;decide +kernel)|(apply zF;decide +kernel)|(apply zL;decide +kernel)|(apply zM;decide +kernel)|(apply zN;intros)|(apply zO;intros)|(apply zT;omega)|(apply zU;omega)|(apply zP;omega;intros)|(apply zQ;omega;intros)|apply zR);cbv))
      refine .one cA rfl rfl ?_
      cbv
      (repeat'((first|(apply zS;kernel_rfl)|(apply zD;decide +kernel)|(apply zE;decide +kernel)|(apply zF;decide +kernel)|(apply zL;decide +kernel)|(apply zM;decide +kernel)|(apply zN;intros)|(apply zO;intros)|(apply zT;omega)|(apply zU;omega)|(apply zP;omega;intros)|(apply zQ;omega;intros)|apply zR);cbv))
      exact ⟨hQ _⟩
    have hgo := hgo rfl
    cbv
    (repeat'((first|(apply zS;kernel_rfl)|(apply zG;decide +kernel)|(apply zF;decide +kernel)|(apply zE;decide +kernel)|(apply zD;decide +kernel)|(apply zL;decide +kernel)|(apply zM;decide +kernel)|(apply zN;intros)|(apply zO;intros)|(apply zT;omega)|(apply zU;omega)|(apply zP;omega;intros)|(apply zQ;omega;intros)|apply zR);cbv))
    refine IdxK.intro h0 hB ?_
    cbv
    (repeat'((first|(apply zS;kernel_rfl)|(apply zG;decide +kernel)|(apply zF;decide +kernel)|(apply zE;decide +kernel)|(apply zD;decide +kernel)|(apply zL;decide +kernel)|(apply zM;decide +kernel)|(apply zN;intros)|(apply zO;intros)|(apply zT;omega)|(apply zU;omega)|(apply zP;omega;intros)|(apply zQ;omega;intros)|apply zR);cbv))
    refine AppK.sl el_bnds el_bnds rfl hnl (by simp only [List.length_cons, List.length_nil]; omega) ?_
    intro L' nl' hL' hnl'
    cbv
    (repeat'((first|(apply zS;kernel_rfl)|(apply zD;decide +kernel)|(apply zE;decide +kernel)|(apply zF;decide +kernel)|(apply zL;decide +kernel)|(apply zM;decide +kernel)|(apply zN;intros)|(apply zO;intros)|(apply zT;omega)|(apply zU;omega)|(apply zP;omega;intros)|(apply zQ;omega;intros)|apply zR);cbv))
    rename_i r hr
    have hL2 : L' = bnsD (bothT n (m.take r.toNat)) := by rw [hgo r hr]; exact hL'
    have hLi : ∀ k, idbL k L' = true := fun k => pure_idbL k _ (by rw [hL2]; exact bns_pure _)
    refine RoundK.forget (r, L', nl') ⟨by omega, by omega, hL2, hnl'⟩ (by omega) rfl rfl ?_ ?_
    · simp [idbL, idb, hBi, hCi, hLi, i0, j0, i1, j1, i2, j2]
    · simp [cellIdb, idbL, idb, i0, j0, i1, j1, i2, j2]
  · have hall : m.take i.toNat = m := List.take_of_length_le (by omega)
    rw [hall] at hL
    have hbl : (bnsD (bothT n m)).length = m.length := by rw [bns_len, bothT, List.length_map]
    have hbp := bns_pure (bothT n m ++ n)
    rw [bns_app] at hbp
    subst hL
    generalize bnsD (bothT n m) = BB at c4 hbl hnl hbp hLl ⊢
    rw [hCn] at hbp
    refine DrawK.turnA 0 8 25 [0] [9, 10] (zs := [.raw (.int .i64 0), .raw (.int .i64 0), .raw (.string ⟨#[]⟩), .raw (.slice none 0 0), .raw (.slice none 0 0)]) (by decide +kernel) (by kernel_rfl) (by decide) rfl (by kernel_rfl) (by decide +kernel) ?_
    cbv
    iterate 3 (refine ⟨⟨rfl, rfl, rfl⟩, ?_⟩; cbv)
    have hlen : BB.length + CS.length ≤ 140737488355328 ∧ (BB.length + CS.length) * 96 ≤ 140737488355328 := by
      rw [hbl, hCl]
      omega
    refine AppK.sl el_bnds el_bnds rfl hnl hlen ?_
    intro L' nl' hL' hnl'
    cbv
    refine AppK.sl el_bnds el_bnds rfl hnl hlen ?_
    intro L2 nl2 hL2 hnl2
    obtain rfl : L2 = L' := hL2.trans hL'.symm
    obtain rfl : nl2 = nl' := hnl2.trans hnl'.symm
    rw [← hL2] at c4 hbp
    refine ⟨⟨rfl, rfl, rfl⟩, ?_⟩
    cbv
    refine TCallK.one c4 (cons_pure2 hp (by simp [pureL, pureD, hbp])) hg ?_
    cbv
    refine TCallK.one c4 (cons_pure2 hp (by simp [pureL, pureD, hbp])) hg ?_
    refine ⟨⟨rfl, rfl, rfl⟩, ?_⟩
    cbv
    iterate 3 (refine ⟨⟨rfl, rfl, rfl⟩, ?_⟩; cbv)
    refine ⟨by decide +kernel, FreeA.one rfl rfl rfl rfl ?_ ?_, ?_⟩
    · repeat' (first | refine List.forall_mem_cons.2 ⟨rfl, ?_⟩ | exact fun _ h => absurd h List.not_mem_nil)
    · repeat' (first | refine List.forall_mem_cons.2 ⟨rfl, ?_⟩ | exact fun _ h => absurd h List.not_mem_nil)
    cbv
    (repeat'((first|(apply zS;kernel_rfl)|(apply zD;decide +kernel)|(apply zE;decide +kernel)|(apply zF;decide +kernel)|(apply zL;decide +kernel)|(apply zM;decide +kernel)|(apply zN;intros)|(apply zO;intros)|(apply zT;omega)|(apply zU;omega)|(apply zP;omega;intros)|(apply zQ;omega;intros)|apply zR);cbv))
    refine .one c5 (cons_pure hg1 (cons_pure hg1 rfl)) rfl ?_
    cbv
    (repeat'((first|(apply zS;kernel_rfl)|(apply zD;decide +kernel)|(apply zE;decide +kernel)|(apply zF;decide +kernel)|(apply zL;decide +kernel)|(apply zM;decide +kernel)|(apply zN;intros)|(apply zO;intros)|(apply zT;omega)|(apply zU;omega)|(apply zP;omega;intros)|(apply zQ;omega;intros)|apply zR);cbv))
    refine .one cA rfl rfl ?_
    cbv
    (repeat'((first|(apply zS;kernel_rfl)|(apply zD;decide +kernel)|(apply zE;decide +kernel)|(apply zF;decide +kernel)|(apply zL;decide +kernel)|(apply zM;decide +kernel)|(apply zN;intros)|(apply zO;intros)|(apply zT;omega)|(apply zU;omega)|(apply zP;omega;intros)|(apply zQ;omega;intros)|apply zR);cbv))
    exact ⟨hQ _⟩
theorem twicew_law (t : Ty5) (m n : List Bd) (ht : okT t) (hm : okB m) (hn : okB n) :
    CP (TT ()) 10 [tyD t, .sl none 6 (bnsD m), .sl none 6 (bnsD n)] (· = .raw (.bool true)) := c4_run fun Q hQ => twicew_run t m n ht hm hn Q hQ
end Go.Proofs.Ytbfmaicoefefaaa

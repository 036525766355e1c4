/- limbecklaw07.SubstOpens, run over any data, where the program's calls answer as the document does. -/
import Derived.Test.YtbfmaicoefefaaaSbK
set_option linter.unusedSimpArgs false
set_option linter.unusedVariables false
namespace Go.Proofs.Ytbfmaicoefefaaa
open Go.RowKit Pv
set_option maxRecDepth 100000
theorem strs_app (a b : List ByteArray) : (a ++ b).map strD = a.map strD ++ b.map strD := List.map_append ..
theorem rng_seal {names : List ByteArray} {fr : Int} (h0 : 0 ≤ fr) (h1 : fr ≤ 1073741824) (hn : names.length ≤ 1000) : ∀ t : Ty5, rngT t → rngT (sealT names fr t) :=
  ty_ind fun k n nm ls ks ih h => by
    unfold sealT
    rcases he : sealF names fr k n nm with _ | u
    · rw [tr_none he]
      refine ⟨h.1, rngL_of fun u hu => ?_⟩
      obtain ⟨t, ht, rfl⟩ := List.mem_map.1 hu
      exact ih t ht (rngL_mem h.2 t ht)
    · rw [tr_some he]
      unfold sealF at he
      split at he
      · obtain ⟨i, hi, rfl⟩ := Option.map_eq_some_iff.1 he
        have := placeT_lt hi
        exact ⟨⟨by omega, by omega⟩, trivial⟩
      · cases he
theorem cons_to {d : D} {ds es : List D} (h : pureD d = some d) (k : pureL ds = some es) : pureL (d :: ds) = some (d :: es) := by simp only [pureL, h, k]
theorem conv_u16 {r : Int} {K : D → Prop} (h : 0 ≤ r ∧ r ≤ 65535) (hk : K (.raw (.int .i64 r))) : ConvK TT 51 3 (.int .u16 r) K := by
  refine ⟨.int .i64 (IntKind.i64.wrap r), by kernel_rfl, ?_⟩
  rw [IntWalk.i64_in _ (by omega)]
  exact hk
set_option maxRecDepth 20000 in
set_option maxHeartbeats 4000000 in
theorem opens_run (P : SubP) (t : Ty5) (m : List Bd) (fr : Int) (hf0 : 0 ≤ fr) (hf1 : fr ≤ 65535) (ht : okT t) (hr : rngT t) (hm : okB m) (hzt : szT t ≤ 1048576) (hzm : ∀ p ∈ m, p.1.size ≤ 1048576 ∧ szT p.2 ≤ 1048576) (Q : D → H → Prop) (hQ : ∀ h', Q (.raw (.bool true)) h') :
    wfun TT 9 [tyD t, .sl none 6 (bnsD m), .raw (.int .u16 fr)] [] Q := by
  have cA := P.awake
  have cM := muchq_cp t ht hzt
  have cF := few_cp m hm hzm
  have cH := hasq_cp 9 t ht
  have main : much t ≤ 400 → (m.length ≤ 20 ∧ ∀ p ∈ m, much p.2 ≤ 100) → hasT 9 t = false →
      CP (TT ()) 45 [tyD t, .sl none 1 ((m.map Prod.fst).map strD), .raw (.int .i64 fr)] (· = tyD (sealT (m.map Prod.fst) fr t)) ∧
      CP (TT ()) 40 [.sl none 6 (bnsD m)] (· = .sl none 5 (tysD (m.map Prod.snd))) ∧
      CP (TT ()) 43 [tyD (sealT (m.map Prod.fst) fr t), .raw (.int .i64 fr), .sl none 5 (tysD (m.map Prod.snd))] (· = fitP (putT m t)) ∧
      CP (TT ()) 37 [tyD t, .sl none 6 (bnsD m)] (· = fitP (putT m t)) ∧
      CP (TT ()) 27 [tyD (fitT (putT m t)), tyD (fitT (putT m t))] (· = .raw (.bool true)) := fun h1 h2 h3 => by
    have hlo := okB_tys hm
    have hll : (m.map Prod.snd).length ≤ 20 := by simpa using h2.1
    have hnl : (m.map Prod.fst).length ≤ 20 := by simpa using h2.1
    have hmn : ∀ p ∈ m, nodesT p.2 ≤ 100 := fun p hp => much_bound (h2.2 p hp) (by omega)
    have htn := much_bound h1 (by omega)
    have hpn := put_nodes (by omega) hmn t
    have hsn := seal_nodes (m.map Prod.fst) fr t
    have hns : ∀ u ∈ m.map Prod.fst, u.size ≤ maxLen := fun u hu => by
      obtain ⟨p, hp, rfl⟩ := List.mem_map.1 hu
      exact (hm p hp).1
    have hso : okT (sealT (m.map Prod.fst) fr t) := seal_ok ht
    have e1 : sealR (m.map Prod.fst) fr t = sealT (m.map Prod.fst) fr t := if_pos ⟨hf0, by omega⟩
    have e2 : openR fr (m.map Prod.snd) (sealT (m.map Prod.fst) fr t) = putT m t := by
      rw [show openR fr (m.map Prod.snd) (sealT (m.map Prod.fst) fr t) = openT fr (m.map Prod.snd) (sealT (m.map Prod.fst) fr t) from if_pos ⟨hf0, by omega⟩, open_seal m fr t h3]
    have c1 := P.seals (m.map Prod.fst) fr t (by omega) hns (by omega) ht (by omega)
    have c3 := P.opens fr (m.map Prod.snd) (sealT (m.map Prod.fst) fr t) (by omega) hlo (by omega) hso (rng_seal hf0 (by omega) (by omega) t hr) (by omega) (by rw [e2]; omega)
    rw [e1] at c1
    rw [e2] at c3
    have hpo : okT (fitT (putT m t)) := fit_ok (put_ok hm ht)
    have c5 := sameq_cp _ _ hpo hpo
    rw [same_refl] at c5
    exact ⟨c1, types_cp m (by omega), c3, P.put m t (by omega) hm ht (by omega) (by omega), c5⟩
  have hp := ty_pure t
  have hBp := bns_pure m
  have hBl := bns_len m
  have hBi := bns_idb m
  have hat := fun i => bns_at (m := m) (i := i)
  have hf := fitP_pure (putT m t)
  have hf1' := ty_pure (fitT (putT m t))
  have hs := ty_pure (sealT (m.map Prod.fst) fr t)
  have hNp := strs_pure (m.map Prod.fst)
  have hlp := tys_pure (m.map Prod.snd)
  have hM : ∃ z : Int, ((much t : Nat) : Int) = z := ⟨_, rfl⟩
  obtain ⟨zt, hzt'⟩ := hM
  rw [hzt'] at cM
  have main := fun (h : zt ≤ 400) => main (by omega)
  unfold fitP at hf main
  generalize hasT 9 t = hb at cH main
  generalize fitB (putT m t) = b1 at hf main
  generalize fitT (putT m t) = t1 at hf hf1' main
  generalize sealT (m.map Prod.fst) fr t = t2 at hs main
  generalize tysD (m.map Prod.snd) = L2 at hlp main
  generalize hNS : (m.map Prod.fst).map strD = NS at hNp main
  generalize bnsD m = BS at cF hBp hBl hBi hat main ⊢
  obtain ⟨k, x, nm, L, K, f0, i0, j0⟩ := c4_node t
  obtain ⟨k1, x1, nm1, L1', K1, f1, i1, j1⟩ := c4_node t1
  obtain ⟨k2, x2, nm2, L2', K2, f2, i2, j2⟩ := c4_node t2
  rw [f0] at cM cH hp ⊢
  rw [f0, f1, f2] at main
  rw [f1] at hf hf1'
  rw [f2] at hs
  clear f0 f1 f2 hzt ht hr
  cbv
  (repeat'((first|(apply zS;kernel_rfl)|(apply zD;decide +kernel)|(apply zE;decide +kernel)|(apply zF;decide +kernel)|(apply zL;decide +kernel)|(apply zM;decide +kernel)|(apply zN;intros)|(apply zO;intros)|(apply zT;omega)|(apply zU;omega)|(apply zP;omega;intros)|(apply zQ;omega;intros)|apply zR);cbv))
  refine .one cM (cons_pure hp rfl) rfl ?_
  cbv
  (repeat'((first|(apply zS;kernel_rfl)|(apply zD;decide +kernel)|(apply zE;decide +kernel)|(apply zF;decide +kernel)|(apply zL;decide +kernel)|(apply zM;decide +kernel)|(apply zN;intros)|(apply zO;intros)|(apply zT;omega)|(apply zU;omega)|(apply zP;omega;intros)|(apply zQ;omega;intros)|apply zR);cbv))
  refine BinK.gtr ?_ ?_ <;> intro h400 <;> cbv <;> (repeat'((first|(apply zS;kernel_rfl)|(apply zD;decide +kernel)|(apply zE;decide +kernel)|(apply zF;decide +kernel)|(apply zL;decide +kernel)|(apply zM;decide +kernel)|(apply zN;intros)|(apply zO;intros)|(apply zT;omega)|(apply zU;omega)|(apply zP;omega;intros)|(apply zQ;omega;intros)|apply zR);cbv))
  · refine .one cA rfl rfl ?_
    cbv
    (repeat'((first|(apply zS;kernel_rfl)|(apply zD;decide +kernel)|(apply zE;decide +kernel)|(apply zF;decide +kernel)|(apply zL;decide +kernel)|(apply zM;decide +kernel)|(apply zN;intros)|(apply zO;intros)|(apply zT;omega)|(apply zU;omega)|(apply zP;omega;intros)|(apply zQ;omega;intros)|apply zR);cbv))
    exact ⟨hQ _⟩
  refine CallK.pure cF (by simp [pureL, pureD, hBp]) ?_
  rintro d ⟨z, rfl, hz⟩
  refine ⟨rfl, ?_⟩
  cbv
  (repeat'((first|(apply zS;kernel_rfl)|(apply zD;decide +kernel)|(apply zE;decide +kernel)|(apply zF;decide +kernel)|(apply zL;decide +kernel)|(apply zM;decide +kernel)|(apply zN;intros)|(apply zO;intros)|(apply zT;omega)|(apply zU;omega)|(apply zP;omega;intros)|(apply zQ;omega;intros)|apply zR);cbv))
  refine BinK.gtr ?_ ?_ <;> intro hz1 <;> cbv <;> (repeat'((first|(apply zS;kernel_rfl)|(apply zD;decide +kernel)|(apply zE;decide +kernel)|(apply zF;decide +kernel)|(apply zL;decide +kernel)|(apply zM;decide +kernel)|(apply zN;intros)|(apply zO;intros)|(apply zT;omega)|(apply zU;omega)|(apply zP;omega;intros)|(apply zQ;omega;intros)|apply zR);cbv))
  · refine .one cA rfl rfl ?_
    cbv
    (repeat'((first|(apply zS;kernel_rfl)|(apply zD;decide +kernel)|(apply zE;decide +kernel)|(apply zF;decide +kernel)|(apply zL;decide +kernel)|(apply zM;decide +kernel)|(apply zN;intros)|(apply zO;intros)|(apply zT;omega)|(apply zU;omega)|(apply zP;omega;intros)|(apply zQ;omega;intros)|apply zR);cbv))
    exact ⟨hQ _⟩
  refine .one cH (cons_pure hp rfl) rfl ?_
  rcases hb with _ | _
  case' true =>
    cbv
    (repeat'((first|(apply zS;kernel_rfl)|(apply zD;decide +kernel)|(apply zE;decide +kernel)|(apply zF;decide +kernel)|(apply zL;decide +kernel)|(apply zM;decide +kernel)|(apply zN;intros)|(apply zO;intros)|(apply zT;omega)|(apply zU;omega)|(apply zP;omega;intros)|(apply zQ;omega;intros)|apply zR);cbv))
    refine .one cA rfl rfl ?_
    cbv
    (repeat'((first|(apply zS;kernel_rfl)|(apply zD;decide +kernel)|(apply zE;decide +kernel)|(apply zF;decide +kernel)|(apply zL;decide +kernel)|(apply zM;decide +kernel)|(apply zN;intros)|(apply zO;intros)|(apply zT;omega)|(apply zU;omega)|(apply zP;omega;intros)|(apply zQ;omega;intros)|apply zR);cbv))
    exact ⟨hQ _⟩
  obtain ⟨g1, g2⟩ := hz (by omega)
  obtain ⟨c1, c2, c3, c4, c5⟩ := main h400 ⟨g1, fun p hp => by have := g2 p hp; omega⟩ rfl
  clear main cM cF hz cH
  cbv
  (repeat'((first|(apply zS;kernel_rfl)|(apply zD;decide +kernel)|(apply zE;decide +kernel)|(apply zF;decide +kernel)|(apply zL;decide +kernel)|(apply zM;decide +kernel)|(apply zN;intros)|(apply zO;intros)|(apply zT;omega)|(apply zU;omega)|(apply zP;omega;intros)|(apply zQ;omega;intros)|apply zR);cbv))
  refine LoopK.log 7 9 1 rfl ?_
  refine LoopK.put (X := Int × List D × Nat) (fun x => [(7, .sl (some 1) 1 x.2.1), (8, .raw (.int .i64 x.1))]) (fun x => [(1, .log 9 1 x.2.2)]) (fun x => m.length - x.1.toNat)
    (fun x => 0 ≤ x.1 ∧ x.1.toNat ≤ m.length ∧ x.2.1 = ((m.take x.1.toNat).map Prod.fst).map strD ∧ x.2.2 = x.2.1.length) (0, [], 0) ⟨by simp, by simp, rfl, rfl⟩ rfl rfl ?_
  rintro ⟨i, LL, nl⟩ N ⟨h0, hi, hL, hnl⟩ hN
  simp only at h0 hi hL hnl hN ⊢
  have hLl : LL.length = i.toNat := by rw [hL, List.length_map, List.length_map, List.length_take]; omega
  cbv
  (repeat'((first|(apply zS;kernel_rfl)|(apply zD;decide +kernel)|(apply zE;decide +kernel)|(apply zF;decide +kernel)|(apply zL;decide +kernel)|(apply zM;decide +kernel)|(apply zN;intros)|(apply zO;intros)|(apply zT;omega)|(apply zU;omega)|(apply zP;omega;intros)|(apply zQ;omega;intros)|apply zR);cbv))
  refine BinK.lss ?_ ?_ <;> intro hlt <;> cbv <;> (repeat'((first|(apply zS;kernel_rfl)|(apply zD;decide +kernel)|(apply zE;decide +kernel)|(apply zF;decide +kernel)|(apply zL;decide +kernel)|(apply zM;decide +kernel)|(apply zN;intros)|(apply zO;intros)|(apply zT;omega)|(apply zU;omega)|(apply zP;omega;intros)|(apply zQ;omega;intros)|apply zR);cbv))
  · obtain ⟨p, hp', hB⟩ := hat i.toNat (by omega)
    have hstep : ∀ r : Int, r = i + 1 → ((m.take r.toNat).map Prod.fst).map strD = LL ++ [.raw (.string p.1)] := fun r hr => by
      have htake : m.take (i.toNat + 1) = m.take i.toNat ++ [p] := by
        obtain ⟨h1, h2⟩ := List.getElem?_eq_some_iff.1 hp'
        rw [List.take_succ_eq_append_getElem h1, h2]
      rw [hL, show r.toNat = i.toNat + 1 by omega, htake]
      simp [strD]
    obtain ⟨k3, x3, nm3, L3, K3, f0, f1, j1', j2'⟩ := bn_node p
    rw [f0] at hB
    generalize p.1 = pn at hB hstep
    clear f0 f1 j1' j2' hL c1 c2 c3 c4 c5
    refine IdxK.intro h0 hB ?_
    cbv
    (repeat'((first|(apply zS;kernel_rfl)|(apply zD;decide +kernel)|(apply zE;decide +kernel)|(apply zF;decide +kernel)|(apply zL;decide +kernel)|(apply zM;decide +kernel)|(apply zN;intros)|(apply zO;intros)|(apply zT;omega)|(apply zU;omega)|(apply zP;omega;intros)|(apply zQ;omega;intros)|apply zR);cbv))
    refine AppK.sl el_strs el_strs rfl hnl (by simp only [List.length_cons, List.length_nil]; omega) ?_
    intro L' nl' hL' hnl'
    cbv
    (repeat'((first|(apply zS;kernel_rfl)|(apply zD;decide +kernel)|(apply zE;decide +kernel)|(apply zF;decide +kernel)|(apply zL;decide +kernel)|(apply zM;decide +kernel)|(apply zN;intros)|(apply zO;intros)|(apply zT;omega)|(apply zU;omega)|(apply zP;omega;intros)|(apply zQ;omega;intros)|apply zR);cbv))
    rename_i r hr
    have hL2 : L' = ((m.take r.toNat).map Prod.fst).map strD := by rw [hstep r hr]; exact hL'
    have hLi : ∀ k, idbL k L' = true := fun k => pure_idbL k _ (by rw [hL2]; exact strs_pure _)
    refine RoundK.forget (r, L', nl') ⟨by omega, by omega, hL2, hnl'⟩ (by omega) rfl rfl ?_ ?_
    · simp [idbL, idb, hBi, hLi, i0, j0]
    · simp [cellIdb, idbL, idb, i0, j0]
  · have hall : m.take i.toNat = m := List.take_of_length_le (by omega)
    rw [hall, hNS] at hL
    subst hL
    have hNp' : pureL [D.agg [.raw (.int .i64 k), .raw (.int .i64 x), .raw (.string nm), .sl none 1 L, .sl none 5 K], .sl (some 1) 1 LL, .raw (.int .i64 fr)] = some [D.agg [.raw (.int .i64 k), .raw (.int .i64 x), .raw (.string nm), .sl none 1 L, .sl none 5 K], .sl none 1 LL, .raw (.int .i64 fr)] := by
      refine cons_to hp ?_
      simp [pureL, pureD, hNp]
    refine conv_u16 ⟨hf0, hf1⟩ ?_
    cbv
    (repeat'((first|(apply zS;kernel_rfl)|(apply zD;decide +kernel)|(apply zE;decide +kernel)|(apply zF;decide +kernel)|(apply zL;decide +kernel)|(apply zM;decide +kernel)|(apply zN;intros)|(apply zO;intros)|(apply zT;omega)|(apply zU;omega)|(apply zP;omega;intros)|(apply zQ;omega;intros)|apply zR);cbv))
    refine .one c1 hNp' hs ?_
    cbv
    (repeat'((first|(apply zS;kernel_rfl)|(apply zD;decide +kernel)|(apply zE;decide +kernel)|(apply zF;decide +kernel)|(apply zL;decide +kernel)|(apply zM;decide +kernel)|(apply zN;intros)|(apply zO;intros)|(apply zT;omega)|(apply zU;omega)|(apply zP;omega;intros)|(apply zQ;omega;intros)|apply zR);cbv))
    refine conv_u16 ⟨hf0, hf1⟩ ?_
    cbv
    (repeat'((first|(apply zS;kernel_rfl)|(apply zD;decide +kernel)|(apply zE;decide +kernel)|(apply zF;decide +kernel)|(apply zL;decide +kernel)|(apply zM;decide +kernel)|(apply zN;intros)|(apply zO;intros)|(apply zT;omega)|(apply zU;omega)|(apply zP;omega;intros)|(apply zQ;omega;intros)|apply zR);cbv))
    refine .one c2 (by simp [pureL, pureD, hBp]) (by simp [pureD, hlp]) ?_
    cbv
    (repeat'((first|(apply zS;kernel_rfl)|(apply zD;decide +kernel)|(apply zE;decide +kernel)|(apply zF;decide +kernel)|(apply zL;decide +kernel)|(apply zM;decide +kernel)|(apply zN;intros)|(apply zO;intros)|(apply zT;omega)|(apply zU;omega)|(apply zP;omega;intros)|(apply zQ;omega;intros)|apply zR);cbv))
    refine .one c3 (cons_pure hs (by simp [pureL, pureD, hlp])) hf ?_
    cbv
    (repeat'((first|(apply zS;kernel_rfl)|(apply zD;decide +kernel)|(apply zE;decide +kernel)|(apply zF;decide +kernel)|(apply zL;decide +kernel)|(apply zM;decide +kernel)|(apply zN;intros)|(apply zO;intros)|(apply zT;omega)|(apply zU;omega)|(apply zP;omega;intros)|(apply zQ;omega;intros)|apply zR);cbv))
    refine .one c4 (cons_pure hp (by simp [pureL, pureD, hBp])) hf ?_
    cbv
    (repeat'((first|(apply zS;kernel_rfl)|(apply zD;decide +kernel)|(apply zE;decide +kernel)|(apply zF;decide +kernel)|(apply zL;decide +kernel)|(apply zM;decide +kernel)|(apply zN;intros)|(apply zO;intros)|(apply zT;omega)|(apply zU;omega)|(apply zP;omega;intros)|(apply zQ;omega;intros)|apply zR);cbv))
    refine beq_one ?_
    cbv
    (repeat'((first|(apply zS;kernel_rfl)|(apply zD;decide +kernel)|(apply zE;decide +kernel)|(apply zF;decide +kernel)|(apply zL;decide +kernel)|(apply zM;decide +kernel)|(apply zN;intros)|(apply zO;intros)|(apply zT;omega)|(apply zU;omega)|(apply zP;omega;intros)|(apply zQ;omega;intros)|apply zR);cbv))
    refine .one c5 (cons_pure hf1' (cons_pure hf1' rfl)) rfl ?_
    cbv
    (repeat'((first|(apply zS;kernel_rfl)|(apply zD;decide +kernel)|(apply zE;decide +kernel)|(apply zF;decide +kernel)|(apply zL;decide +kernel)|(apply zM;decide +kernel)|(apply zN;intros)|(apply zO;intros)|(apply zT;omega)|(apply zU;omega)|(apply zP;omega;intros)|(apply zQ;omega;intros)|apply zR);cbv))
    refine .one cA rfl rfl ?_
    cbv
    (repeat'((first|(apply zS;kernel_rfl)|(apply zD;decide +kernel)|(apply zE;decide +kernel)|(apply zF;decide +kernel)|(apply zL;decide +kernel)|(apply zM;decide +kernel)|(apply zN;intros)|(apply zO;intros)|(apply zT;omega)|(apply zU;omega)|(apply zP;omega;intros)|(apply zQ;omega;intros)|apply zR);cbv))
    exact ⟨hQ _⟩
end Go.Proofs.Ytbfmaicoefefaaa

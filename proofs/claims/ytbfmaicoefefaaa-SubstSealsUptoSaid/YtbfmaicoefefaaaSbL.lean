/- limbecklaw07.SubstPuts and SubstSeals, run over any data, where the program's four calls answer as the document does. -/
import Derived.Test.YtbfmaicoefefaaaSbA
set_option linter.unusedSimpArgs false
set_option linter.unusedVariables false
namespace Go.Proofs.Ytbfmaicoefefaaa
open Go.RowKit Pv
set_option maxRecDepth 100000
/-- What is sealed, or stays. -/
def sealR (names : List ByteArray) (fr : Int) (t : Ty5) : Ty5 := if 0 ≤ fr ∧ fr + names.length ≤ 1073741824 then sealT names fr t else t
def openR (fr : Int) (l : List Ty5) (t : Ty5) : Ty5 := if 0 ≤ fr ∧ fr ≤ 1073741824 then openT fr l t else t
/-- The program's calls, as the laws need them. -/
structure SubP : Prop where
  awake : CP (TT ()) 36 [] (· = .raw (.bool true))
  put : ∀ (m : List Bd) (t : Ty5), m.length ≤ 1000 → okB m → okT t → nodesT t ≤ 100000 → nodesT (putT m t) ≤ 100000 → CP (TT ()) 37 [tyD t, .sl none 6 (bnsD m)] (· = fitP (putT m t))
  all : ∀ (m : List Bd) (l : List Ty5), m.length ≤ 1000 → okB m → l.length ≤ 1000 → okT.okL l → (∀ t ∈ l, nodesT t ≤ 100000 ∧ nodesT (putT m t) ≤ 100000) → CP (TT ()) 39 [.sl none 5 (tysD l), .sl none 6 (bnsD m)] (· = allP m l)
  seals : ∀ (names : List ByteArray) (fr : Int) (t : Ty5), names.length ≤ 1000 → (∀ u ∈ names, u.size ≤ maxLen) → -9223372036854775808 ≤ fr ∧ fr ≤ 9223372036854775807 → okT t → nodesT t ≤ 100000 → CP (TT ()) 45 [tyD t, .sl none 1 (names.map strD), .raw (.int .i64 fr)] (· = tyD (sealR names fr t))
  opens : ∀ (fr : Int) (l : List Ty5) (t : Ty5), l.length ≤ 1000 → okT.okL l → -9223372036854775808 ≤ fr ∧ fr ≤ 9223372036854775807 → okT t → rngT t → nodesT t ≤ 100000 → nodesT (openR fr l t) ≤ 100000 → CP (TT ()) 43 [tyD t, .raw (.int .i64 fr), .sl none 5 (tysD l)] (· = fitP (openR fr l t))
theorem beq_one {x y : Operand} {b : Bool} {K : D → Prop} (hk : K (.raw (.bool true))) : BinK TT .eql 4 x y (.bool b) (.bool b) K :=
  ⟨.bool true, by cases b <;> first | rfl | kernel_rfl, hk⟩
theorem put_nodes {m : List Bd} {B : Nat} (h1 : 1 ≤ B) (hm : ∀ p ∈ m, nodesT p.2 ≤ B) (t : Ty5) : nodesT (putT m t) ≤ nodesT t * B := tr_nodes h1 (fun k n nm u e => by
  unfold putF at e
  split at e
  · obtain ⟨p, hp, _, rfl⟩ := findT_mem e
    exact hm p hp
  · cases e) t
theorem much_bound {t : Ty5} {B : Nat} (h : much t ≤ B) (hB : B < 3000) : nodesT t ≤ B := Nat.le_trans (much_nodes t (by omega)) h
set_option maxRecDepth 20000 in
set_option maxHeartbeats 4000000 in
theorem puts_run (P : SubP) (t : Ty5) (m n : List Bd) (ht : okT t) (hm : okB m) (hn : okB n) (hzt : szT t ≤ 1048576) (hzm : ∀ p ∈ m, p.1.size ≤ 1048576 ∧ szT p.2 ≤ 1048576) (hzn : ∀ p ∈ n, p.1.size ≤ 1048576 ∧ szT p.2 ≤ 1048576) (Q : D → H → Prop) (hQ : ∀ h', Q (.raw (.bool true)) h') :
    wfun TT 7 [tyD t, .sl none 6 (bnsD m), .sl none 6 (bnsD n)] [] Q := by
  have cA := P.awake
  have cM := muchq_cp t ht hzt
  have cF := few_cp m hm hzm
  have cG := few_cp n hn hzn
  have main : much t ≤ 400 → (m.length ≤ 20 ∧ ∀ p ∈ m, much p.2 ≤ 100) → (n.length ≤ 20 ∧ ∀ p ∈ n, much p.2 ≤ 100) →
      CP (TT ()) 37 [tyD t, .sl none 6 (bnsD m)] (· = fitP (putT m t)) ∧ CP (TT ()) 38 [tyD t, .sl none 6 (bnsD m)] (· = fitP (putT m t)) ∧
      CP (TT ()) 39 [.sl none 5 (tysD (n.map Prod.snd)), .sl none 6 (bnsD m)] (· = allP m (n.map Prod.snd)) ∧ CP (TT ()) 41 [.sl none 5 (tysD (n.map Prod.snd)), .sl none 6 (bnsD m)] (· = allP m (n.map Prod.snd)) ∧
      CP (TT ()) 40 [.sl none 6 (bnsD n)] (· = .sl none 5 (tysD (n.map Prod.snd))) ∧
      CP (TT ()) 27 [tyD (fitT (putT m t)), tyD (fitT (putT m t))] (· = .raw (.bool true)) ∧
      CP (TT ()) 42 [.sl none 5 (tysD (allT m (n.map Prod.snd))), .sl none 5 (tysD (allT m (n.map Prod.snd)))] (· = .raw (.bool true)) := fun h1 h2 h3 => by
    have hmn : ∀ p ∈ m, nodesT p.2 ≤ 100 := fun p hp => much_bound (h2.2 p hp) (by omega)
    have htn := much_bound h1 (by omega)
    have hpn := put_nodes (by omega) hmn t
    have hpo : okT (putT m t) := put_ok hm ht
    have hfo : okT (fitT (putT m t)) := fit_ok hpo
    have hln : ∀ u ∈ n.map Prod.snd, nodesT u ≤ 100 ∧ nodesT (putT m u) ≤ 10000 := fun u hu => by
      obtain ⟨p, hp, rfl⟩ := List.mem_map.1 hu
      have e1 := much_bound (h3.2 p hp) (by omega)
      have e2 := put_nodes (by omega) hmn p.2
      omega
    have hlo := okB_tys hn
    have hll : (n.map Prod.snd).length ≤ 20 := by simpa using h3.1
    have hao : okT.okL (allT m (n.map Prod.snd)) := by
      unfold allT
      split
      · refine okL_from fun u hu => ?_
        obtain ⟨v, hv, rfl⟩ := List.mem_map.1 hu
        exact put_ok hm (okL_get hlo v hv)
      · trivial
    have hal : (allT m (n.map Prod.snd)).length ≤ 20 := by
      unfold allT
      split
      · simpa using h3.1
      · simp
    have cS := sameq_cp _ _ hfo hfo
    rw [same_refl] at cS
    exact ⟨P.put m t (by omega) hm ht (by omega) (by omega), rput_cp m (by omega) hm t ht (by omega) (by omega), P.all m _ (by omega) hm (by omega) hlo fun u hu => ⟨by have := hln u hu; omega, by have := hln u hu; omega⟩,
      rall_cp m (by omega) hm _ (by omega) hlo fun u hu => ⟨by have := hln u hu; omega, by have := hln u hu; omega⟩, types_cp n (by omega), cS, sameAll_cp _ hao (by omega)⟩
  have hp := ty_pure t
  have hBp := bns_pure m
  have hCp := bns_pure n
  have hf := fitP_pure (putT m t)
  have ha := allP_pure m (n.map Prod.snd)
  have hf1 := ty_pure (fitT (putT m t))
  have ha1 := tys_pure (allT m (n.map Prod.snd))
  have hlp := tys_pure (n.map Prod.snd)
  have hM : ∃ z : Int, ((much t : Nat) : Int) = z := ⟨_, rfl⟩
  obtain ⟨zt, hzt'⟩ := hM
  rw [hzt'] at cM
  have main := fun (h : zt ≤ 400) => main (by omega)
  unfold fitP at hf main
  unfold allP at ha main
  generalize fitB (putT m t) = b1 at hf main
  generalize fitT (putT m t) = t1 at hf hf1 main
  generalize allB m (n.map Prod.snd) = b2 at ha main
  generalize tysD (allT m (n.map Prod.snd)) = L1 at ha ha1 main
  generalize tysD (n.map Prod.snd) = L2 at hlp main
  generalize bnsD m = BS at cF hBp main ⊢
  generalize bnsD n = CS at cG hCp main ⊢
  obtain ⟨k, x, nm, L, K, f0, i0, j0⟩ := c4_node t
  obtain ⟨k1, x1, nm1, L1', K1, f1, i1, j1⟩ := c4_node t1
  rw [f0] at cM hp ⊢
  rw [f0, f1] at main
  rw [f1] at hf hf1
  clear i0 j0 i1 j1 f0 f1 hzt ht
  cbv
  (repeat'((first|(apply zS;kernel_rfl)|(apply zD;decide +kernel)|(apply zE;decide +kernel)|(apply zF;decide +kernel)|(apply zL;decide +kernel)|(apply zM;decide +kernel)|(apply zN;intros)|(apply zO;intros)|(apply zT;omega)|(apply zU;omega)|(apply zP;omega;intros)|(apply zQ;omega;intros)|apply zR);cbv))
  refine CallK.one cM (cons_pure hp rfl) rfl ?_
  cbv
  (repeat'((first|(apply zS;kernel_rfl)|(apply zD;decide +kernel)|(apply zE;decide +kernel)|(apply zF;decide +kernel)|(apply zL;decide +kernel)|(apply zM;decide +kernel)|(apply zN;intros)|(apply zO;intros)|(apply zT;omega)|(apply zU;omega)|(apply zP;omega;intros)|(apply zQ;omega;intros)|apply zR);cbv))
  refine BinK.gtr ?_ ?_ <;> intro h400 <;> cbv <;> (repeat'((first|(apply zS;kernel_rfl)|(apply zD;decide +kernel)|(apply zE;decide +kernel)|(apply zF;decide +kernel)|(apply zL;decide +kernel)|(apply zM;decide +kernel)|(apply zN;intros)|(apply zO;intros)|(apply zT;omega)|(apply zU;omega)|(apply zP;omega;intros)|(apply zQ;omega;intros)|apply zR);cbv))
  · refine CallK.one cA rfl rfl ?_
    cbv
    (repeat'((first|(apply zS;kernel_rfl)|(apply zD;decide +kernel)|(apply zE;decide +kernel)|(apply zF;decide +kernel)|(apply zL;decide +kernel)|(apply zM;decide +kernel)|(apply zN;intros)|(apply zO;intros)|(apply zT;omega)|(apply zU;omega)|(apply zP;omega;intros)|(apply zQ;omega;intros)|apply zR);cbv))
    exact ⟨hQ _⟩
  refine CallK.pure cF (by simp [pureL, pureD, hBp]) ?_
  rintro d ⟨z, rfl, hz⟩
  refine ⟨rfl, ?_⟩
  cbv
  (repeat'((first|(apply zS;kernel_rfl)|(apply zD;decide +kernel)|(apply zE;decide +kernel)|(apply zF;decide +kernel)|(apply zL;decide +kernel)|(apply zM;decide +kernel)|(apply zN;intros)|(apply zO;intros)|(apply zT;omega)|(apply zU;omega)|(apply zP;omega;intros)|(apply zQ;omega;intros)|apply zR);cbv))
  refine BinK.gtr ?_ ?_ <;> intro hz1 <;> cbv <;> (repeat'((first|(apply zS;kernel_rfl)|(apply zD;decide +kernel)|(apply zE;decide +kernel)|(apply zF;decide +kernel)|(apply zL;decide +kernel)|(apply zM;decide +kernel)|(apply zN;intros)|(apply zO;intros)|(apply zT;omega)|(apply zU;omega)|(apply zP;omega;intros)|(apply zQ;omega;intros)|apply zR);cbv))
  · refine CallK.one cA rfl rfl ?_
    cbv
    (repeat'((first|(apply zS;kernel_rfl)|(apply zD;decide +kernel)|(apply zE;decide +kernel)|(apply zF;decide +kernel)|(apply zL;decide +kernel)|(apply zM;decide +kernel)|(apply zN;intros)|(apply zO;intros)|(apply zT;omega)|(apply zU;omega)|(apply zP;omega;intros)|(apply zQ;omega;intros)|apply zR);cbv))
    exact ⟨hQ _⟩
  refine CallK.pure cG (by simp [pureL, pureD, hCp]) ?_
  rintro d ⟨z', rfl, hz'⟩
  refine ⟨rfl, ?_⟩
  cbv
  (repeat'((first|(apply zS;kernel_rfl)|(apply zD;decide +kernel)|(apply zE;decide +kernel)|(apply zF;decide +kernel)|(apply zL;decide +kernel)|(apply zM;decide +kernel)|(apply zN;intros)|(apply zO;intros)|(apply zT;omega)|(apply zU;omega)|(apply zP;omega;intros)|(apply zQ;omega;intros)|apply zR);cbv))
  refine BinK.gtr ?_ ?_ <;> intro hz1' <;> cbv <;> (repeat'((first|(apply zS;kernel_rfl)|(apply zD;decide +kernel)|(apply zE;decide +kernel)|(apply zF;decide +kernel)|(apply zL;decide +kernel)|(apply zM;decide +kernel)|(apply zN;intros)|(apply zO;intros)|(apply zT;omega)|(apply zU;omega)|(apply zP;omega;intros)|(apply zQ;omega;intros)|apply zR);cbv))
  · refine CallK.one cA rfl rfl ?_
    cbv
    (repeat'((first|(apply zS;kernel_rfl)|(apply zD;decide +kernel)|(apply zE;decide +kernel)|(apply zF;decide +kernel)|(apply zL;decide +kernel)|(apply zM;decide +kernel)|(apply zN;intros)|(apply zO;intros)|(apply zT;omega)|(apply zU;omega)|(apply zP;omega;intros)|(apply zQ;omega;intros)|apply zR);cbv))
    exact ⟨hQ _⟩
  obtain ⟨g1, g2⟩ := hz (by omega)
  obtain ⟨g1', g2'⟩ := hz' (by omega)
  obtain ⟨c1, c2, c3, c4, c5, c6, c7⟩ := main h400 ⟨g1, fun p hp => by have := g2 p hp; omega⟩ ⟨g1', fun p hp => by have := g2' p hp; omega⟩
  clear main cM cF cG hz hz'
  refine CallK.one c1 (cons_pure hp (by simp [pureL, pureD, hBp])) hf ?_
  cbv
  (repeat'((first|(apply zS;kernel_rfl)|(apply zD;decide +kernel)|(apply zE;decide +kernel)|(apply zF;decide +kernel)|(apply zL;decide +kernel)|(apply zM;decide +kernel)|(apply zN;intros)|(apply zO;intros)|(apply zT;omega)|(apply zU;omega)|(apply zP;omega;intros)|(apply zQ;omega;intros)|apply zR);cbv))
  refine CallK.one c2 (cons_pure hp (by simp [pureL, pureD, hBp])) hf ?_
  cbv
  (repeat'((first|(apply zS;kernel_rfl)|(apply zD;decide +kernel)|(apply zE;decide +kernel)|(apply zF;decide +kernel)|(apply zL;decide +kernel)|(apply zM;decide +kernel)|(apply zN;intros)|(apply zO;intros)|(apply zT;omega)|(apply zU;omega)|(apply zP;omega;intros)|(apply zQ;omega;intros)|apply zR);cbv))
  refine CallK.one c5 (by simp [pureL, pureD, hCp]) (by simp [pureD, hlp]) ?_
  cbv
  (repeat'((first|(apply zS;kernel_rfl)|(apply zD;decide +kernel)|(apply zE;decide +kernel)|(apply zF;decide +kernel)|(apply zL;decide +kernel)|(apply zM;decide +kernel)|(apply zN;intros)|(apply zO;intros)|(apply zT;omega)|(apply zU;omega)|(apply zP;omega;intros)|(apply zQ;omega;intros)|apply zR);cbv))
  refine CallK.one c3 (by simp [pureL, pureD, hBp, hlp]) ha ?_
  cbv
  (repeat'((first|(apply zS;kernel_rfl)|(apply zD;decide +kernel)|(apply zE;decide +kernel)|(apply zF;decide +kernel)|(apply zL;decide +kernel)|(apply zM;decide +kernel)|(apply zN;intros)|(apply zO;intros)|(apply zT;omega)|(apply zU;omega)|(apply zP;omega;intros)|(apply zQ;omega;intros)|apply zR);cbv))
  refine CallK.one c5 (by simp [pureL, pureD, hCp]) (by simp [pureD, hlp]) ?_
  cbv
  (repeat'((first|(apply zS;kernel_rfl)|(apply zD;decide +kernel)|(apply zE;decide +kernel)|(apply zF;decide +kernel)|(apply zL;decide +kernel)|(apply zM;decide +kernel)|(apply zN;intros)|(apply zO;intros)|(apply zT;omega)|(apply zU;omega)|(apply zP;omega;intros)|(apply zQ;omega;intros)|apply zR);cbv))
  refine CallK.one c4 (by simp [pureL, pureD, hBp, hlp]) ha ?_
  cbv
  (repeat'((first|(apply zS;kernel_rfl)|(apply zD;decide +kernel)|(apply zE;decide +kernel)|(apply zF;decide +kernel)|(apply zL;decide +kernel)|(apply zM;decide +kernel)|(apply zN;intros)|(apply zO;intros)|(apply zT;omega)|(apply zU;omega)|(apply zP;omega;intros)|(apply zQ;omega;intros)|apply zR);cbv))
  refine .one c6 (cons_pure hf1 (cons_pure hf1 rfl)) rfl ?_
  cbv
  (repeat'((first|(apply zS;kernel_rfl)|(apply zD;decide +kernel)|(apply zE;decide +kernel)|(apply zF;decide +kernel)|(apply zL;decide +kernel)|(apply zM;decide +kernel)|(apply zN;intros)|(apply zO;intros)|(apply zT;omega)|(apply zU;omega)|(apply zP;omega;intros)|(apply zQ;omega;intros)|apply zR);cbv))
  refine beq_one ?_
  cbv
  (repeat'((first|(apply zS;kernel_rfl)|(apply zD;decide +kernel)|(apply zE;decide +kernel)|(apply zF;decide +kernel)|(apply zL;decide +kernel)|(apply zM;decide +kernel)|(apply zN;intros)|(apply zO;intros)|(apply zT;omega)|(apply zU;omega)|(apply zP;omega;intros)|(apply zQ;omega;intros)|apply zR);cbv))
  refine .one c7 (by simp [pureL, pureD, ha1]) rfl ?_
  cbv
  (repeat'((first|(apply zS;kernel_rfl)|(apply zD;decide +kernel)|(apply zE;decide +kernel)|(apply zF;decide +kernel)|(apply zL;decide +kernel)|(apply zM;decide +kernel)|(apply zN;intros)|(apply zO;intros)|(apply zT;omega)|(apply zU;omega)|(apply zP;omega;intros)|(apply zQ;omega;intros)|apply zR);cbv))
  refine beq_one ?_
  cbv
  (repeat'((first|(apply zS;kernel_rfl)|(apply zD;decide +kernel)|(apply zE;decide +kernel)|(apply zF;decide +kernel)|(apply zL;decide +kernel)|(apply zM;decide +kernel)|(apply zN;intros)|(apply zO;intros)|(apply zT;omega)|(apply zU;omega)|(apply zP;omega;intros)|(apply zQ;omega;intros)|apply zR);cbv))
  refine .one cA rfl rfl ?_
  cbv
  (repeat'((first|(apply zS;kernel_rfl)|(apply zD;decide +kernel)|(apply zE;decide +kernel)|(apply zF;decide +kernel)|(apply zL;decide +kernel)|(apply zM;decide +kernel)|(apply zN;intros)|(apply zO;intros)|(apply zT;omega)|(apply zU;omega)|(apply zP;omega;intros)|(apply zQ;omega;intros)|apply zR);cbv))
  exact ⟨hQ _⟩
end Go.Proofs.Ytbfmaicoefefaaa

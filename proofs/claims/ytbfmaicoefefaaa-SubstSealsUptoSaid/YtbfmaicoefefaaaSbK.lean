/- limbecklaw07.SubstSeals, SubstTwice and SubstOpens, run over any data, where the program's four calls answer as the document does. -/
import Derived.Test.YtbfmaicoefefaaaSbL
set_option linter.unusedSimpArgs false
set_option linter.unusedVariables false
namespace Go.Proofs.Ytbfmaicoefefaaa
open Go.RowKit Pv
set_option maxRecDepth 100000
theorem open_nodes {l : List Ty5} {B : Nat} (h1 : 1 ≤ B) (hl : ∀ t ∈ l, nodesT t ≤ B) (fr : Int) (t : Ty5) : nodesT (openT fr l t) ≤ nodesT t * B := tr_nodes h1 (fun k n nm u e => by
  unfold openF nth? at e
  split at e
  · split at e
    · exact hl u (List.mem_of_getElem? e)
    · cases e
  · cases e) t
theorem openR_nodes {l : List Ty5} {B : Nat} (h1 : 1 ≤ B) (hl : ∀ t ∈ l, nodesT t ≤ B) (fr : Int) (t : Ty5) : nodesT (openR fr l t) ≤ nodesT t * B := by
  unfold openR
  split
  · exact open_nodes h1 hl fr t
  · exact Nat.le_mul_of_pos_right _ h1
theorem seal_nodes (names : List ByteArray) (fr : Int) (t : Ty5) : nodesT (sealT names fr t) ≤ nodesT t := by
  have := tr_nodes (f := sealF names fr) (B := 1) (Nat.le_refl _) (fun k n nm u e => by
    unfold sealF at e
    split at e
    · obtain ⟨i, _, rfl⟩ := Option.map_eq_some_iff.1 e
      simp [nodesT, nodesL]
    · cases e) t
  rw [Nat.mul_one] at this
  exact this
theorem sealR_ok {names : List ByteArray} {fr : Int} {t : Ty5} (h : okT t) : okT (sealR names fr t) := by
  unfold sealR
  split
  · exact seal_ok h
  · exact h
theorem openR_ok {l : List Ty5} (hl : okT.okL l) {fr : Int} {t : Ty5} (h : okT t) : okT (openR fr l t) := by
  unfold openR
  split
  · exact open_ok hl h
  · exact h
set_option maxRecDepth 20000 in
set_option maxHeartbeats 4000000 in
theorem seals_run (P : SubP) (t : Ty5) (names : List ByteArray) (fr : Int) (l : List Bd) (ht : okT t) (hr : rngT t) (hns : ∀ u ∈ names, u.size ≤ maxLen) (hfr : -9223372036854775808 ≤ fr ∧ fr ≤ 9223372036854775807) (hl : okB l) (hzt : szT t ≤ 1048576) (hzl : ∀ p ∈ l, p.1.size ≤ 1048576 ∧ szT p.2 ≤ 1048576)
    (Q : D → H → Prop) (hQ : ∀ h', Q (.raw (.bool true)) h') :
    wfun TT 8 [tyD t, .sl none 1 (names.map strD), .raw (.int .i64 fr), .sl none 6 (bnsD l)] [] Q := by
  have cA := P.awake
  have cM := muchq_cp t ht hzt
  have cF := few_cp l hl hzl
  have main : much t ≤ 400 → names.length ≤ 50 → (l.length ≤ 20 ∧ ∀ p ∈ l, much p.2 ≤ 100) →
      CP (TT ()) 40 [.sl none 6 (bnsD l)] (· = .sl none 5 (tysD (l.map Prod.snd))) ∧
      CP (TT ()) 43 [tyD t, .raw (.int .i64 fr), .sl none 5 (tysD (l.map Prod.snd))] (· = fitP (openR fr (l.map Prod.snd) t)) ∧ CP (TT ()) 44 [tyD t, .raw (.int .i64 fr), .sl none 5 (tysD (l.map Prod.snd))] (· = fitP (openR fr (l.map Prod.snd) t)) ∧
      CP (TT ()) 45 [tyD t, .sl none 1 (names.map strD), .raw (.int .i64 fr)] (· = tyD (sealR names fr t)) ∧ CP (TT ()) 46 [tyD t, .sl none 1 (names.map strD), .raw (.int .i64 fr)] (· = tyD (sealR names fr t)) ∧
      CP (TT ()) 27 [tyD (sealR names fr t), tyD (sealR names fr t)] (· = .raw (.bool true)) ∧
      CP (TT ()) 27 [tyD (fitT (openR fr (l.map Prod.snd) t)), tyD (fitT (openR fr (l.map Prod.snd) t))] (· = .raw (.bool true)) := fun h1 h2 h3 => by
    have hlo := okB_tys hl
    have hll : (l.map Prod.snd).length ≤ 20 := by simpa using h3.1
    have hln : ∀ u ∈ l.map Prod.snd, nodesT u ≤ 100 := fun u hu => by
      obtain ⟨p, hp, rfl⟩ := List.mem_map.1 hu
      exact much_bound (h3.2 p hp) (by omega)
    have htn := much_bound h1 (by omega)
    have hon := openR_nodes (by omega) hln fr t
    have hoo := fit_ok (openR_ok hlo (fr := fr) ht)
    have hso := sealR_ok (names := names) (fr := fr) ht
    have c1 := sameq_cp _ _ hso hso
    have c2 := sameq_cp _ _ hoo hoo
    rw [same_refl] at c1 c2
    have e : openR fr (l.map Prod.snd) t = if 0 ≤ fr ∧ fr ≤ 1073741824 then openT fr (l.map Prod.snd) t else t := rfl
    have hopn := open_nodes (by omega) hln fr t
    exact ⟨types_cp l (by omega), P.opens fr _ t (by omega) hlo hfr ht hr (by omega) (by omega), ropen_cp fr _ (by omega) hlo t ht hr (by omega) (by omega), P.seals names fr t (by omega) hns hfr ht (by omega), rseal_cp names fr (by omega) hns t (by omega), c1, c2⟩
  have hp := ty_pure t
  have hNp := strs_pure names
  have hNl : (names.map strD).length = names.length := List.length_map ..
  have hCp := bns_pure l
  have hf := fitP_pure (openR fr (l.map Prod.snd) t)
  have hf1 := ty_pure (fitT (openR fr (l.map Prod.snd) t))
  have hs1 := ty_pure (sealR names fr t)
  have hlp := tys_pure (l.map Prod.snd)
  have hM : ∃ z : Int, ((much t : Nat) : Int) = z := ⟨_, rfl⟩
  obtain ⟨zt, hzt'⟩ := hM
  rw [hzt'] at cM
  have main := fun (h : zt ≤ 400) => main (by omega)
  unfold fitP at hf main
  generalize fitB (openR fr (l.map Prod.snd) t) = b1 at hf main
  generalize fitT (openR fr (l.map Prod.snd) t) = t1 at hf hf1 main
  generalize sealR names fr t = t2 at hs1 main
  generalize tysD (l.map Prod.snd) = L2 at hlp main
  generalize names.map strD = NS at hNp hNl main ⊢
  generalize bnsD l = CS at cF hCp main ⊢
  obtain ⟨k, x, nm, L, K, f0, i0, j0⟩ := c4_node t
  obtain ⟨k1, x1, nm1, L1', K1, f1, i1, j1⟩ := c4_node t1
  obtain ⟨k2, x2, nm2, L2', K2, f2, i2, j2⟩ := c4_node t2
  rw [f0] at cM hp ⊢
  rw [f0, f1, f2] at main
  rw [f1] at hf hf1
  rw [f2] at hs1
  clear i0 j0 i1 j1 i2 j2 f0 f1 f2 hzt ht hr hns
  cbv
  (repeat'((first|(apply zS;kernel_rfl)|(apply zD;decide +kernel)|(apply zE;decide +kernel)|(apply zF;decide +kernel)|(apply zL;decide +kernel)|(apply zM;decide +kernel)|(apply zN;intros)|(apply zO;intros)|(apply zT;omega)|(apply zU;omega)|(apply zP;omega;intros)|(apply zQ;omega;intros)|apply zR);cbv))
  refine .one cM (cons_pure hp rfl) rfl ?_
  cbv
  (repeat'((first|(apply zS;kernel_rfl)|(apply zD;decide +kernel)|(apply zE;decide +kernel)|(apply zF;decide +kernel)|(apply zL;decide +kernel)|(apply zM;decide +kernel)|(apply zN;intros)|(apply zO;intros)|(apply zT;omega)|(apply zU;omega)|(apply zP;omega;intros)|(apply zQ;omega;intros)|apply zR);cbv))
  refine BinK.gtr ?_ ?_ <;> intro h400 <;> cbv <;> (repeat'((first|(apply zS;kernel_rfl)|(apply zD;decide +kernel)|(apply zE;decide +kernel)|(apply zF;decide +kernel)|(apply zL;decide +kernel)|(apply zM;decide +kernel)|(apply zN;intros)|(apply zO;intros)|(apply zT;omega)|(apply zU;omega)|(apply zP;omega;intros)|(apply zQ;omega;intros)|apply zR);cbv))
  · refine .one cA rfl rfl ?_
    cbv
    (repeat'((first|(apply zS;kernel_rfl)|(apply zD;decide +kernel)|(apply zE;decide +kernel)|(apply zF;decide +kernel)|(apply zL;decide +kernel)|(apply zM;decide +kernel)|(apply zN;intros)|(apply zO;intros)|(apply zT;omega)|(apply zU;omega)|(apply zP;omega;intros)|(apply zQ;omega;intros)|apply zR);cbv))
    exact ⟨hQ _⟩
  refine BinK.gtr ?_ ?_ <;> intro h50 <;> cbv <;> (repeat'((first|(apply zS;kernel_rfl)|(apply zD;decide +kernel)|(apply zE;decide +kernel)|(apply zF;decide +kernel)|(apply zL;decide +kernel)|(apply zM;decide +kernel)|(apply zN;intros)|(apply zO;intros)|(apply zT;omega)|(apply zU;omega)|(apply zP;omega;intros)|(apply zQ;omega;intros)|apply zR);cbv))
  · refine .one cA rfl rfl ?_
    cbv
    (repeat'((first|(apply zS;kernel_rfl)|(apply zD;decide +kernel)|(apply zE;decide +kernel)|(apply zF;decide +kernel)|(apply zL;decide +kernel)|(apply zM;decide +kernel)|(apply zN;intros)|(apply zO;intros)|(apply zT;omega)|(apply zU;omega)|(apply zP;omega;intros)|(apply zQ;omega;intros)|apply zR);cbv))
    exact ⟨hQ _⟩
  refine CallK.pure cF (by simp [pureL, pureD, hCp]) ?_
  rintro d ⟨z', rfl, hz'⟩
  refine ⟨rfl, ?_⟩
  cbv
  (repeat'((first|(apply zS;kernel_rfl)|(apply zD;decide +kernel)|(apply zE;decide +kernel)|(apply zF;decide +kernel)|(apply zL;decide +kernel)|(apply zM;decide +kernel)|(apply zN;intros)|(apply zO;intros)|(apply zT;omega)|(apply zU;omega)|(apply zP;omega;intros)|(apply zQ;omega;intros)|apply zR);cbv))
  refine BinK.gtr ?_ ?_ <;> intro hz1' <;> cbv <;> (repeat'((first|(apply zS;kernel_rfl)|(apply zD;decide +kernel)|(apply zE;decide +kernel)|(apply zF;decide +kernel)|(apply zL;decide +kernel)|(apply zM;decide +kernel)|(apply zN;intros)|(apply zO;intros)|(apply zT;omega)|(apply zU;omega)|(apply zP;omega;intros)|(apply zQ;omega;intros)|apply zR);cbv))
  · refine .one cA rfl rfl ?_
    cbv
    (repeat'((first|(apply zS;kernel_rfl)|(apply zD;decide +kernel)|(apply zE;decide +kernel)|(apply zF;decide +kernel)|(apply zL;decide +kernel)|(apply zM;decide +kernel)|(apply zN;intros)|(apply zO;intros)|(apply zT;omega)|(apply zU;omega)|(apply zP;omega;intros)|(apply zQ;omega;intros)|apply zR);cbv))
    exact ⟨hQ _⟩
  obtain ⟨g1', g2'⟩ := hz' (by omega)
  obtain ⟨c1, c2, c3, c4, c5, c6, c7⟩ := main h400 (by omega) ⟨g1', fun p hp => by have := g2' p hp; omega⟩
  clear main cM cF hz'
  refine .one c1 (by simp [pureL, pureD, hCp]) (by simp [pureD, hlp]) ?_
  cbv
  (repeat'((first|(apply zS;kernel_rfl)|(apply zD;decide +kernel)|(apply zE;decide +kernel)|(apply zF;decide +kernel)|(apply zL;decide +kernel)|(apply zM;decide +kernel)|(apply zN;intros)|(apply zO;intros)|(apply zT;omega)|(apply zU;omega)|(apply zP;omega;intros)|(apply zQ;omega;intros)|apply zR);cbv))
  refine .one c2 (cons_pure hp (by simp [pureL, pureD, hlp])) hf ?_
  cbv
  (repeat'((first|(apply zS;kernel_rfl)|(apply zD;decide +kernel)|(apply zE;decide +kernel)|(apply zF;decide +kernel)|(apply zL;decide +kernel)|(apply zM;decide +kernel)|(apply zN;intros)|(apply zO;intros)|(apply zT;omega)|(apply zU;omega)|(apply zP;omega;intros)|(apply zQ;omega;intros)|apply zR);cbv))
  refine .one c1 (by simp [pureL, pureD, hCp]) (by simp [pureD, hlp]) ?_
  cbv
  (repeat'((first|(apply zS;kernel_rfl)|(apply zD;decide +kernel)|(apply zE;decide +kernel)|(apply zF;decide +kernel)|(apply zL;decide +kernel)|(apply zM;decide +kernel)|(apply zN;intros)|(apply zO;intros)|(apply zT;omega)|(apply zU;omega)|(apply zP;omega;intros)|(apply zQ;omega;intros)|apply zR);cbv))
  refine .one c3 (cons_pure hp (by simp [pureL, pureD, hlp])) hf ?_
  cbv
  (repeat'((first|(apply zS;kernel_rfl)|(apply zD;decide +kernel)|(apply zE;decide +kernel)|(apply zF;decide +kernel)|(apply zL;decide +kernel)|(apply zM;decide +kernel)|(apply zN;intros)|(apply zO;intros)|(apply zT;omega)|(apply zU;omega)|(apply zP;omega;intros)|(apply zQ;omega;intros)|apply zR);cbv))
  refine .one c4 (cons_pure hp (by simp [pureL, pureD, hNp])) hs1 ?_
  cbv
  (repeat'((first|(apply zS;kernel_rfl)|(apply zD;decide +kernel)|(apply zE;decide +kernel)|(apply zF;decide +kernel)|(apply zL;decide +kernel)|(apply zM;decide +kernel)|(apply zN;intros)|(apply zO;intros)|(apply zT;omega)|(apply zU;omega)|(apply zP;omega;intros)|(apply zQ;omega;intros)|apply zR);cbv))
  refine .one c5 (cons_pure hp (by simp [pureL, pureD, hNp])) hs1 ?_
  cbv
  (repeat'((first|(apply zS;kernel_rfl)|(apply zD;decide +kernel)|(apply zE;decide +kernel)|(apply zF;decide +kernel)|(apply zL;decide +kernel)|(apply zM;decide +kernel)|(apply zN;intros)|(apply zO;intros)|(apply zT;omega)|(apply zU;omega)|(apply zP;omega;intros)|(apply zQ;omega;intros)|apply zR);cbv))
  refine .one c6 (cons_pure hs1 (cons_pure hs1 rfl)) rfl ?_
  cbv
  (repeat'((first|(apply zS;kernel_rfl)|(apply zD;decide +kernel)|(apply zE;decide +kernel)|(apply zF;decide +kernel)|(apply zL;decide +kernel)|(apply zM;decide +kernel)|(apply zN;intros)|(apply zO;intros)|(apply zT;omega)|(apply zU;omega)|(apply zP;omega;intros)|(apply zQ;omega;intros)|apply zR);cbv))
  refine .one c7 (cons_pure hf1 (cons_pure hf1 rfl)) rfl ?_
  cbv
  (repeat'((first|(apply zS;kernel_rfl)|(apply zD;decide +kernel)|(apply zE;decide +kernel)|(apply zF;decide +kernel)|(apply zL;decide +kernel)|(apply zM;decide +kernel)|(apply zN;intros)|(apply zO;intros)|(apply zT;omega)|(apply zU;omega)|(apply zP;omega;intros)|(apply zQ;omega;intros)|apply zR);cbv))
  refine beq_one ?_
  cbv
  (repeat'((first|(apply zS;kernel_rfl)|(apply zD;decide +kernel)|(apply zE;decide +kernel)|(apply zF;decide +kernel)|(apply zL;decide +kernel)|(apply zM;decide +kernel)|(apply zN;intros)|(apply zO;intros)|(apply zT;omega)|(apply zU;omega)|(apply zP;omega;intros)|(apply zQ;omega;intros)|apply zR);cbv))
  refine .one cA rfl rfl ?_
  cbv
  (repeat'((first|(apply zS;kernel_rfl)|(apply zD;decide +kernel)|(apply zE;decide +kernel)|(apply zF;decide +kernel)|(apply zL;decide +kernel)|(apply zM;decide +kernel)|(apply zN;intros)|(apply zO;intros)|(apply zT;omega)|(apply zU;omega)|(apply zP;omega;intros)|(apply zQ;omega;intros)|apply zR);cbv))
  exact ⟨hQ _⟩
end Go.Proofs.Ytbfmaicoefefaaa

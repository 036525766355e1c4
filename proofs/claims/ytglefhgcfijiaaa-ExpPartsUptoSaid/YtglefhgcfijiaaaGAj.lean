/- Parts of the proof: EpG, TySm, TySp. -/
import Derived.Test.YtglefhgcfijiaaaGAi
import Derived.Test.YtglefhgcfijiaaaGAf
import Derived.Test.YtglefhgcfijiaaaGAh
set_option linter.unusedSimpArgs false
set_option linter.unusedVariables false
set_option maxRecDepth 1000000
set_option maxHeartbeats 40000000
namespace Go.Proofs.Ytglefhgcfijiaaa
open Go.RowKit Pv
def sameB : List Bd -> List Bd -> Bool
 | [],[] => true
 | p :: r,q :: s => decide (p.1 = q.1) && sameT p.2 q.2 && sameB r s
 | [],_ :: _ => false
 | _ :: _,[] => false
theorem sameB_len : ∀ {a b : List Bd},sameB a b = true -> a.length = b.length
 | [],[],_ => rfl
 | t :: r,u :: q,h => by
  simp only [sameB,Bool.and_eq_true] at h
  have := sameB_len h.2
  simp [this]
 | [],_ :: _,h => by simp [sameB] at h
 | _ :: _,[],h => by simp [sameB] at h
theorem sameB_at : ∀ {a b : List Bd},a.length = b.length -> (sameB a b = true ↔ ∀ (j : Nat) (t u : Bd),a[j]? = some t -> b[j]? = some u -> t.1 = u.1 ∧ sameT t.2 u.2 = true)
 | [],[],_ => ⟨fun _ j t u h => by simp at h,fun _ => rfl⟩
 | t :: r,u :: q,hl => by
  simp only [sameB,Bool.and_eq_true,decide_eq_true_eq]
  rw [sameB_at (a := r) (b := q) (by simpa using hl)]
  constructor
  ·rintro ⟨h1,h2⟩ j x y hx hy
   cases j with
   | zero => simp at hx hy;subst hx hy;exact h1
   | succ j => exact h2 j x y (by simpa using hx) (by simpa using hy)
  ·intro h
   exact ⟨h 0 t u rfl rfl,fun j x y hx hy => h (j + 1) x y (by simpa using hx) (by simpa using hy)⟩
 | [],_ :: _,h => by simp at h
 | _ :: _,[],h => by simp at h
theorem sameB_refl : ∀ m : List Bd,sameB m m = true
 | [] => rfl
 | p :: r => by simp [sameB,same_refl,sameB_refl r]
theorem rsameB_run (a b : List Bd) (hl : a.length = b.length) (hks : a.length ≤ 1000000)
  (hc : ∀ t ∈ a,∀ u ∈ b,CP (TT ()) 52 [tyD t.2,tyD u.2] (· = .raw (.bool (sameT t.2 u.2)))) (Q : D -> H -> Prop) (hQ : ∀ h',Q (.raw (.bool (sameB a b))) h') :
  wfun TT 51 [.sl none 6 (bnsD a),.sl none 6 (bnsD b)] [] Q := by
 have q2 : sameB a b ≠ true -> ∀ h',Q (.raw (.bool false)) h' := fun h => by rw [Bool.eq_false_iff.2 h] at hQ;exact hQ
 have q3 : sameB a b = true -> ∀ h',Q (.raw (.bool true)) h' := fun h => by rw [h] at hQ;exact hQ
 have hKl := bns_len a
 have hKl' := bns_len b
 have hKi := bns_idb a
 have hKi' := bns_idb b
 have hKat := fun i => bns_at (m := a) (i := i)
 have hKat' := fun i => bns_at (m := b) (i := i)
 clear hQ
 generalize bnsD a = KS at hKl hKi hKat ⊢
 generalize bnsD b = KS' at hKl' hKi' hKat' ⊢
 cbv
 (repeat'((first|(apply zS;kernel_rfl)|(apply zD;decide +kernel)|(apply zE;decide +kernel)|(apply zF;decide +kernel)|(apply zL;decide +kernel)|(apply zM;decide +kernel)|(apply zN;intros)|(apply zO;intros)|(apply zT;omega)|(apply zU;omega)|(apply zP;omega;intros)|(apply zQ;omega;intros)|apply zR);cbv))
 refine LoopK.put (X := Int) (fun x => [(5,.raw (.int .i64 x))]) (fun _ => []) (fun x => a.length - x.toNat) (fun x => 0 ≤ x ∧ x.toNat ≤ a.length ∧ ∀ (j : Nat) (t u : Bd),j < x.toNat -> a[j]? = some t -> b[j]? = some u -> t.1 = u.1 ∧ sameT t.2 u.2 = true) 0 ⟨by simp,by simp,fun j t u hj => absurd hj (Nat.not_lt_zero _)⟩ rfl rfl ?_
 rintro i N ⟨h0,hi,hj⟩ hN
 simp only at h0 hi hj hN ⊢
 cbv
 (repeat'((first|(apply zS;kernel_rfl)|(apply zD;decide +kernel)|(apply zE;decide +kernel)|(apply zF;decide +kernel)|(apply zL;decide +kernel)|(apply zM;decide +kernel)|(apply zN;intros)|(apply zO;intros)|(apply zT;omega)|(apply zU;omega)|(apply zP;omega;intros)|(apply zQ;omega;intros)|apply zR);cbv))
 refine BinK.lss ?_ ?_ <;> intro hlt <;> cbv <;> (repeat'((first|(apply zS;kernel_rfl)|(apply zD;decide +kernel)|(apply zE;decide +kernel)|(apply zF;decide +kernel)|(apply zL;decide +kernel)|(apply zM;decide +kernel)|(apply zN;intros)|(apply zO;intros)|(apply zT;omega)|(apply zU;omega)|(apply zP;omega;intros)|(apply zQ;omega;intros)|apply zR);cbv))
 ·obtain ⟨t,ht,hK⟩ := hKat i.toNat (by omega)
  obtain ⟨u,hu,hK'⟩ := hKat' i.toNat (by omega)
  have hct := hc t (List.mem_of_getElem? ht) u (List.mem_of_getElem? hu)
  have hpt := ty_pure t.2
  have hpu := ty_pure u.2
  have hno : ¬ (t.1 = u.1 ∧ sameT t.2 u.2 = true) -> ∀ h',Q (.raw (.bool false)) h' := fun e => q2 fun h => e ((sameB_at hl).1 h i.toNat t u ht hu)
  have hnext : t.1 = u.1 -> sameT t.2 u.2 = true -> ∀ r : Int,r = i + 1 -> ∀ (j : Nat) (t u : Bd),j < r.toNat -> a[j]? = some t -> b[j]? = some u -> t.1 = u.1 ∧ sameT t.2 u.2 = true := fun e1 e2 r hr j x y hjr hx hy => by
   by_cases hji : j = i.toNat
   ·rw [hji,ht] at hx
    rw [hji,hu] at hy
    cases hx
    cases hy
    exact ⟨e1,e2⟩
   ·exact hj j x y (by omega) hx hy
  generalize sameT t.2 u.2 = bb at hct hno hnext
  obtain ⟨k0,n0,m0,L0,K0,f0,f0',i0,j0⟩ := bn_node t
  obtain ⟨k1,n1,m1,L1,K1,f1,f1',i1,j1⟩ := bn_node u
  clear i0 j0 i1 j1
  rw [f0'] at hct hpt
  rw [f0] at hK
  rw [f1'] at hct hpu
  rw [f1] at hK'
  clear f0 f1 f0' f1' hc q2 q3 hj ht hu
  generalize t.1 = s1 at hK hno hnext
  generalize u.1 = s2 at hK' hno hnext
  refine IdxK.intro h0 hK ?_
  cbv
  (repeat'((first|(apply zS;kernel_rfl)|(apply zD;decide +kernel)|(apply zE;decide +kernel)|(apply zF;decide +kernel)|(apply zL;decide +kernel)|(apply zM;decide +kernel)|(apply zN;intros)|(apply zO;intros)|(apply zT;omega)|(apply zU;omega)|(apply zP;omega;intros)|(apply zQ;omega;intros)|apply zR);cbv))
  refine IdxK.intro h0 hK' ?_
  cbv
  (repeat'((first|(apply zS;kernel_rfl)|(apply zD;decide +kernel)|(apply zE;decide +kernel)|(apply zF;decide +kernel)|(apply zL;decide +kernel)|(apply zM;decide +kernel)|(apply zN;intros)|(apply zO;intros)|(apply zT;omega)|(apply zU;omega)|(apply zP;omega;intros)|(apply zQ;omega;intros)|apply zR);cbv))
  refine BinK.sneq ?_ ?_ <;> intro hs
  ·cbv
   (repeat'((first|(apply zS;kernel_rfl)|(apply zD;decide +kernel)|(apply zE;decide +kernel)|(apply zF;decide +kernel)|(apply zL;decide +kernel)|(apply zM;decide +kernel)|(apply zN;intros)|(apply zO;intros)|(apply zT;omega)|(apply zU;omega)|(apply zP;omega;intros)|(apply zQ;omega;intros)|apply zR);cbv))
   exact ⟨hno (fun h => hs h.1) _⟩
  cbv
  (repeat'((first|(apply zS;kernel_rfl)|(apply zD;decide +kernel)|(apply zE;decide +kernel)|(apply zF;decide +kernel)|(apply zL;decide +kernel)|(apply zM;decide +kernel)|(apply zN;intros)|(apply zO;intros)|(apply zT;omega)|(apply zU;omega)|(apply zP;omega;intros)|(apply zQ;omega;intros)|apply zR);cbv))
  refine IdxK.intro h0 hK ?_
  cbv
  (repeat'((first|(apply zS;kernel_rfl)|(apply zD;decide +kernel)|(apply zE;decide +kernel)|(apply zF;decide +kernel)|(apply zL;decide +kernel)|(apply zM;decide +kernel)|(apply zN;intros)|(apply zO;intros)|(apply zT;omega)|(apply zU;omega)|(apply zP;omega;intros)|(apply zQ;omega;intros)|apply zR);cbv))
  refine IdxK.intro h0 hK' ?_
  cbv
  (repeat'((first|(apply zS;kernel_rfl)|(apply zD;decide +kernel)|(apply zE;decide +kernel)|(apply zF;decide +kernel)|(apply zL;decide +kernel)|(apply zM;decide +kernel)|(apply zN;intros)|(apply zO;intros)|(apply zT;omega)|(apply zU;omega)|(apply zP;omega;intros)|(apply zQ;omega;intros)|apply zR);cbv))
  refine .one hct (cons_pure hpt (cons_pure hpu rfl)) rfl ?_
  rcases bb with _ | _
  ·cbv
   (repeat'((first|(apply zS;kernel_rfl)|(apply zD;decide +kernel)|(apply zE;decide +kernel)|(apply zF;decide +kernel)|(apply zL;decide +kernel)|(apply zM;decide +kernel)|(apply zN;intros)|(apply zO;intros)|(apply zT;omega)|(apply zU;omega)|(apply zP;omega;intros)|(apply zQ;omega;intros)|apply zR);cbv))
   exact ⟨hno (fun h => by cases h.2) _⟩
  have hnext := hnext hs rfl
  cbv
  (repeat'((first|(apply zS;kernel_rfl)|(apply zD;decide +kernel)|(apply zE;decide +kernel)|(apply zF;decide +kernel)|(apply zL;decide +kernel)|(apply zM;decide +kernel)|(apply zN;intros)|(apply zO;intros)|(apply zT;omega)|(apply zU;omega)|(apply zP;omega;intros)|(apply zQ;omega;intros)|apply zR);cbv))
  rename_i r hr
  have hnext := hnext r hr
  refine RoundK.next r ⟨by omega,by omega,hnext⟩ (by omega) rfl rfl
 ·have hLt : sameB a b = true := (sameB_at hl).2 fun j t u ht hu => hj j t u (by have := (List.getElem?_eq_some_iff.1 ht).1;omega) ht hu
  exact ⟨q3 hLt _⟩
theorem rsameB_off (a b : List Bd) (hl : a.length ≠ b.length) (Q : D -> H -> Prop) (hQ : ∀ h',Q (.raw (.bool false)) h') : wfun TT 51 [.sl none 6 (bnsD a),.sl none 6 (bnsD b)] [] Q := by
 have hKl := bns_len a
 have hKl' := bns_len b
 generalize bnsD a = KS at hKl ⊢
 generalize bnsD b = KS' at hKl' ⊢
 cbv
 (repeat'((first|(apply zS;kernel_rfl)|(apply zD;decide +kernel)|(apply zE;decide +kernel)|(apply zF;decide +kernel)|(apply zL;decide +kernel)|(apply zM;decide +kernel)|(apply zN;intros)|(apply zO;intros)|(apply zT;omega)|(apply zU;omega)|(apply zP;omega;intros)|(apply zQ;omega;intros)|apply zR);cbv))
 exact ⟨hQ _⟩
theorem rsameB_cp (a b : List Bd) (ha : okB a) (hb : okB b) (hk : a.length ≤ 1000000) : CP (TT ()) 51 [.sl none 6 (bnsD a),.sl none 6 (bnsD b)] (· = .raw (.bool (sameB a b))) := by
 by_cases hl : a.length = b.length
 ·exact c4_run (rsameB_run a b hl hk fun t ht u hu => sameq_cp t.2 u.2 (ha t ht).2 (hb u hu).2)
 ·have e : sameB a b = false := by
   rw [Bool.eq_false_iff]
   exact fun h => hl (sameB_len h)
  rw [e]
  exact c4_run (rsameB_off a b hl)
def sgTs (s : Sg) : List Ty5 := s.bs.map Prod.snd ++ (s.ps.map Prod.snd ++ [s.rs])
theorem sg_node (s : Sg) : ∃ k n tn L K,sgD s = .agg [.raw (.string s.nm),.sl none 6 (bnsD s.bs),.sl none 6 (bnsD s.ps),.raw (.int .i64 k),.raw (.int .i64 n),.raw (.string tn),.sl none 1 L,.sl none 5 K] ∧
  tyD s.rs = .agg [.raw (.int .i64 k),.raw (.int .i64 n),.raw (.string tn),.sl none 1 L,.sl none 5 K] ∧ (∀ m,idbL m L = true) ∧ ∀ m,idbL m K = true := by
 obtain ⟨nm,bs,ps,k,n,tn,ls,ks⟩ := s
 exact ⟨k,n,tn,_,_,rfl,rfl,fun m => strs_idb ls m,fun m => tys_idb ks m⟩
def sameSg (s t : Sg) : Bool := decide (s.nm = t.nm) && (sameB s.bs t.bs && (sameB s.ps t.ps && sameT s.rs t.rs))
theorem sameSg_refl (s : Sg) : sameSg s s = true := by simp [sameSg,sameB_refl,same_refl]
theorem sameSig_cp (s t : Sg) (hs : okS s) (ht : okS t) (hb : s.bs.length ≤ 1000000) (hp : s.ps.length ≤ 1000000) : CP (TT ()) 27 [sgD s,sgD t] (· = .raw (.bool (sameSg s t))) := by
 have c1 := rsameB_cp s.bs t.bs hs.2.1 ht.2.1 hb
 have c2 := rsameB_cp s.ps t.ps hs.2.2.1 ht.2.2.1 hp
 have c3 := sameq_cp s.rs t.rs hs.2.2.2 ht.2.2.2
 have e : sameSg s t = (decide (s.nm = t.nm) && (sameB s.bs t.bs && (sameB s.ps t.ps && sameT s.rs t.rs))) := rfl
 have p1 := bns_pure s.bs
 have p2 := bns_pure t.bs
 have p3 := bns_pure s.ps
 have p4 := bns_pure t.ps
 have p5 := ty_pure s.rs
 have p6 := ty_pure t.rs
 rw [e]
 obtain ⟨k,n,tn,L0,K0,e0,e1,hL0,hK0⟩ := sg_node s
 obtain ⟨k',n',tn',L0',K0',e0',e1',hL0',hK0'⟩ := sg_node t
 rw [e0,e0']
 rw [e1,e1'] at c3
 rw [e1] at p5
 rw [e1'] at p6
 clear e0 e1 e0' e1' e
 generalize s.nm = a1
 generalize t.nm = a2
 generalize sameB s.bs t.bs = b1 at c1 ⊢
 generalize sameB s.ps t.ps = b2 at c2 ⊢
 generalize sameT s.rs t.rs = b3 at c3 ⊢
 generalize bnsD s.bs = B1 at c1 p1 ⊢
 generalize bnsD t.bs = B2 at c1 p2 ⊢
 generalize bnsD s.ps = B3 at c2 p3 ⊢
 generalize bnsD t.ps = B4 at c2 p4 ⊢
 refine c4_run fun Q hQ => ?_
 have q0 : a1 ≠ a2 -> ∀ h',Q (.raw (.bool false)) h' := fun h h' => by
  have := hQ h'
  rwa [decide_eq_false h] at this
 have q1 : a1 = a2 -> ∀ h',Q (.raw (.bool (b1 && (b2 && b3)))) h' := fun h h' => by
  have := hQ h'
  rwa [decide_eq_true h,Bool.true_and] at this
 clear hQ
 cbv
 (repeat'((first|(apply zS;kernel_rfl)|(apply zD;decide +kernel)|(apply zE;decide +kernel)|(apply zF;decide +kernel)|(apply zL;decide +kernel)|(apply zM;decide +kernel)|(apply zN;intros)|(apply zO;intros)|(apply zT;omega)|(apply zU;omega)|(apply zP;omega;intros)|(apply zQ;omega;intros)|apply zR);cbv))
 refine BinK.seql ?_ ?_ <;> intro hnm <;> cbv <;> (repeat'((first|(apply zS;kernel_rfl)|(apply zD;decide +kernel)|(apply zE;decide +kernel)|(apply zF;decide +kernel)|(apply zL;decide +kernel)|(apply zM;decide +kernel)|(apply zN;intros)|(apply zO;intros)|(apply zT;omega)|(apply zU;omega)|(apply zP;omega;intros)|(apply zQ;omega;intros)|apply zR);cbv))
 case' refine_2 => exact ⟨q0 hnm _⟩
 have q1 := q1 hnm
 refine .one c1 (by simp [pureL,pureD,p1,p2]) rfl ?_
 rcases b1 with _ | _
 ·cbv
  (repeat'((first|(apply zS;kernel_rfl)|(apply zD;decide +kernel)|(apply zE;decide +kernel)|(apply zF;decide +kernel)|(apply zL;decide +kernel)|(apply zM;decide +kernel)|(apply zN;intros)|(apply zO;intros)|(apply zT;omega)|(apply zU;omega)|(apply zP;omega;intros)|(apply zQ;omega;intros)|apply zR);cbv))
  exact ⟨q1 _⟩
 cbv
 (repeat'((first|(apply zS;kernel_rfl)|(apply zD;decide +kernel)|(apply zE;decide +kernel)|(apply zF;decide +kernel)|(apply zL;decide +kernel)|(apply zM;decide +kernel)|(apply zN;intros)|(apply zO;intros)|(apply zT;omega)|(apply zU;omega)|(apply zP;omega;intros)|(apply zQ;omega;intros)|apply zR);cbv))
 refine .one c2 (by simp [pureL,pureD,p3,p4]) rfl ?_
 rcases b2 with _ | _
 ·cbv
  (repeat'((first|(apply zS;kernel_rfl)|(apply zD;decide +kernel)|(apply zE;decide +kernel)|(apply zF;decide +kernel)|(apply zL;decide +kernel)|(apply zM;decide +kernel)|(apply zN;intros)|(apply zO;intros)|(apply zT;omega)|(apply zU;omega)|(apply zP;omega;intros)|(apply zQ;omega;intros)|apply zR);cbv))
  exact ⟨q1 _⟩
 cbv
 (repeat'((first|(apply zS;kernel_rfl)|(apply zD;decide +kernel)|(apply zE;decide +kernel)|(apply zF;decide +kernel)|(apply zL;decide +kernel)|(apply zM;decide +kernel)|(apply zN;intros)|(apply zO;intros)|(apply zT;omega)|(apply zU;omega)|(apply zP;omega;intros)|(apply zQ;omega;intros)|apply zR);cbv))
 refine .one c3 (cons_pure p5 (cons_pure p6 rfl)) rfl ?_
 cbv
 (repeat'((first|(apply zS;kernel_rfl)|(apply zD;decide +kernel)|(apply zE;decide +kernel)|(apply zF;decide +kernel)|(apply zL;decide +kernel)|(apply zM;decide +kernel)|(apply zN;intros)|(apply zO;intros)|(apply zT;omega)|(apply zU;omega)|(apply zP;omega;intros)|(apply zQ;omega;intros)|apply zR);cbv))
 exact ⟨q1 _⟩
def sameDf (c d : Df) : Bool := sameSg c.sg d.sg && sameE c.bd d.bd
theorem sameDf_refl (d : Df) : sameDf d d = true := by simp [sameDf,sameSg_refl,sameE_refl]
theorem df_node (d : Df) : ∃ nm B P k n tn L K ek en em eh eT eL eK,dfD d = .agg [.raw (.string nm),.sl none 6 B,.sl none 6 P,.raw (.int .i64 k),.raw (.int .i64 n),.raw (.string tn),.sl none 1 L,.sl none 5 K,.raw (.int .i64 ek),.raw (.int .i64 en),.raw (.string em),.raw (.bool eh),.sl none 5 eT,.sl none 1 eL,.sl none 7 eK] ∧
  sgD d.sg = .agg [.raw (.string nm),.sl none 6 B,.sl none 6 P,.raw (.int .i64 k),.raw (.int .i64 n),.raw (.string tn),.sl none 1 L,.sl none 5 K] ∧ exD d.bd = .agg [.raw (.int .i64 ek),.raw (.int .i64 en),.raw (.string em),.raw (.bool eh),.sl none 5 eT,.sl none 1 eL,.sl none 7 eK] := by
 obtain ⟨⟨nm,bs,ps,k,n,tn,ls,ks⟩,ek,en,em,eh,et,el,ek'⟩ := d
 exact ⟨_,_,_,_,_,_,_,_,_,_,_,_,_,_,_,rfl,rfl,rfl⟩
theorem sameDef_cp (c d : Df) (hc : okD c) (hd : okD d) (hb : c.sg.bs.length ≤ 1000000) (hp : c.sg.ps.length ≤ 1000000) (hn : nodesE c.bd ≤ 1000000) : CP (TT ()) 29 [dfD c,dfD d] (· = .raw (.bool (sameDf c d))) := by
 have c1 := sameSig_cp c.sg d.sg hc.1 hd.1 hb hp
 have c2 := rsameE_cp c.bd hc.2 hn d.bd hd.2
 have e : sameDf c d = (sameSg c.sg d.sg && sameE c.bd d.bd) := rfl
 have p1 := sg_pure c.sg
 have p2 := sg_pure d.sg
 have p3 := ex_pure c.bd
 have p4 := ex_pure d.bd
 rw [e]
 obtain ⟨nm,B,P,k,n,tn,L,K,ek,en,em,eh,eT,eL,eK,e0,e1,e2⟩ := df_node c
 obtain ⟨nm',B',P',k',n',tn',L',K',ek',en',em',eh',eT',eL',eK',e0',e1',e2'⟩ := df_node d
 rw [e0,e0']
 rw [e1,e1'] at c1
 rw [e2,e2'] at c2
 rw [e1] at p1
 rw [e1'] at p2
 rw [e2] at p3
 rw [e2'] at p4
 clear e0 e1 e2 e0' e1' e2' e
 generalize sameSg c.sg d.sg = b1 at c1 ⊢
 generalize sameE c.bd d.bd = b2 at c2 ⊢
 refine c4_run fun Q hQ => ?_
 cbv
 (repeat'((first|(apply zS;kernel_rfl)|(apply zD;decide +kernel)|(apply zE;decide +kernel)|(apply zF;decide +kernel)|(apply zL;decide +kernel)|(apply zM;decide +kernel)|(apply zN;intros)|(apply zO;intros)|(apply zT;omega)|(apply zU;omega)|(apply zP;omega;intros)|(apply zQ;omega;intros)|apply zR);cbv))
 refine .one c1 (cons_pure p1 (cons_pure p2 rfl)) rfl ?_
 rcases b1 with _ | _
 ·cbv
  (repeat'((first|(apply zS;kernel_rfl)|(apply zD;decide +kernel)|(apply zE;decide +kernel)|(apply zF;decide +kernel)|(apply zL;decide +kernel)|(apply zM;decide +kernel)|(apply zN;intros)|(apply zO;intros)|(apply zT;omega)|(apply zU;omega)|(apply zP;omega;intros)|(apply zQ;omega;intros)|apply zR);cbv))
  exact ⟨hQ _⟩
 cbv
 (repeat'((first|(apply zS;kernel_rfl)|(apply zD;decide +kernel)|(apply zE;decide +kernel)|(apply zF;decide +kernel)|(apply zL;decide +kernel)|(apply zM;decide +kernel)|(apply zN;intros)|(apply zO;intros)|(apply zT;omega)|(apply zU;omega)|(apply zP;omega;intros)|(apply zQ;omega;intros)|apply zR);cbv))
 refine .one c2 (cons_pure p3 (cons_pure p4 rfl)) rfl ?_
 cbv
 (repeat'((first|(apply zS;kernel_rfl)|(apply zD;decide +kernel)|(apply zE;decide +kernel)|(apply zF;decide +kernel)|(apply zL;decide +kernel)|(apply zM;decide +kernel)|(apply zN;intros)|(apply zO;intros)|(apply zT;omega)|(apply zU;omega)|(apply zP;omega;intros)|(apply zQ;omega;intros)|apply zR);cbv))
 exact ⟨hQ _⟩
open Go.RowKit Go.Deep Go.Sort
theorem equalS_any (v u : Value) (ss ts : List ByteArray) (w : World) (h : StrsAt w v ss) (g : StrsAt w u ts) :
  Calls Try.prog 47 #[v,u] w fun e w' => e = .returned (.bool (eqL ss ts)) ∧ Below w.heap.size w w' := by
 obtain ⟨_,hm,h⟩ := h
 obtain ⟨_,gm,g⟩ := g
 unfold maxLen at hm gm
 by_cases hl : ss.length = ts.length
 ·rcases h with ⟨a,cap,rfl,rfl⟩ | ⟨b,off,cap,rfl,hb,hc⟩
  ·obtain rfl : ts = [] := List.length_eq_zero_iff.1 (by simpa using hl.symm)
   rcases g with ⟨a',cap',rfl,_⟩ | ⟨b',off',cap',rfl,gb,gc⟩
   all_goals
    go_enter Try.func47,Try.ntmps47
    go_wp2
    go_rounds 1
    go_ret
    exact ⟨retB rfl,Below.refl _ _⟩
  ·rcases g with ⟨a',cap',rfl,rfl⟩ | ⟨b',off',cap',rfl,gb,gc⟩
   ·obtain rfl : ss = [] := List.length_eq_zero_iff.1 (by simpa using hl)
    go_enter Try.func47,Try.ntmps47
    go_wp2
    go_rounds 1
    go_ret
    exact ⟨retB rfl,Below.refl _ _⟩
   ·rw [← hl] at gc ⊢
    have HL := Asd.mk hl
    clear hl
    go_enter Try.func47,Try.ntmps47
    go_wp2
    go_loopw [13] (fun i wr => ∃ k : Nat,k ≤ ss.length ∧ i = .int .i64 k ∧ Below w.heap.size w wr ∧ ∀ j,j < k -> eqS (stAt ss j) (stAt ts j) = true) (fun i _ => ss.length - (intOf i).toNat)
    case atStart => exact ⟨0,by omega,rfl,Below.refl _ _,fun j hj => by omega⟩
    case round =>
     obtain ⟨k,hk,rfl,hbw,hq⟩ := hrel
     have HQ := Asd.mk hq
     clear hq
     by_cases hlt : k < ss.length
     ·have hcx := (hbw.cell (p := ⟨b,off + k,none⟩) hb).trans (hc k hlt)
      have hcy := (hbw.cell (p := ⟨b',off' + k,none⟩) gb).trans (gc k hlt)
      obtain ⟨x,hx⟩ : ∃ x,x = stAt ss k := ⟨_,rfl⟩
      obtain ⟨y,hy⟩ : ∃ y,y = stAt ts k := ⟨_,rfl⟩
      rw [← hx] at hcx
      rw [← hy] at hcy
      have HX := Asd.mk hx
      have HY := Asd.mk hy
      clear hx hy hc gc
      have kx := cell_regrown hcx
      have ky := cell_regrown hcy
      rcases Bool.eq_false_or_eq_true (x.toList == y.toList) with he | he
      ·go_wp2_with fail
       refine wp_region_quiet_below (by kernel_rfl) (by kernel_rfl) ?_
       repeat (go_big_quiet_step (fail))
       refine wpQuiet_nil ?_
       intro _ hw'
       obtain ⟨⟨dq,osq⟩,hw''⟩ := hw'
       obtain ⟨W2,hW2⟩ : ∃ W2,W2 = grow (redrawn wr dq) osq := ⟨_,rfl⟩
       have hb2 : Below wr.heap.size wr W2 := by rw [hW2];exact below_regrown wr dq osq
       subst hw''
       rw [← hW2]
       clear hW2 kx ky
       go_wp2
       go_roundw
       case rel => exact ⟨k + 1,by omega,by go_num,hbw.trans (hb2.mono hbw.size),fun j hj => by
        by_cases hjk : j = k
        ·subst hjk;rw [← HX.out,← HY.out];exact he
        ·exact HQ.out j (by omega)⟩
       case measure => simp [intOf];omega
      ·go_wp2_with fail
       refine wp_region_quiet_below (by kernel_rfl) (by kernel_rfl) ?_
       repeat (go_big_quiet_step (fail))
       refine wpQuiet_nil ?_
       intro _ hw'
       obtain ⟨⟨dq,osq⟩,hw''⟩ := hw'
       obtain ⟨W2,hW2⟩ : ∃ W2,W2 = grow (redrawn wr dq) osq := ⟨_,rfl⟩
       have hb2 : Below wr.heap.size wr W2 := by rw [hW2];exact below_regrown wr dq osq
       subst hw''
       rw [← hW2]
       clear hW2 kx ky
       go_wp2
       go_ret
       exact ⟨retB (eqL_differ (j := k) (by rw [← HX.out,← HY.out];exact he)).symm,hbw.trans (hb2.mono hbw.size)⟩
     ·have : k = ss.length := by omega
      subst this
      clear hc gc
      go_wp2
      go_ret
      exact ⟨retB (eqL_all HL.out HQ.out).symm,hbw⟩
 ·rw [eqL_len hl]
  rcases h with ⟨a,cap,rfl,rfl⟩ | ⟨b,off,cap,rfl,hb,hc⟩ <;> rcases g with ⟨a',cap',rfl,rfl⟩ | ⟨b',off',cap',rfl,gb,gc⟩
  ·exact absurd rfl hl
  all_goals
   try (simp only [List.length_nil] at hl)
   go_enter Try.func47,Try.ntmps47
   go_wp2
   all_goals (first | go_ret | skip)
   all_goals exact ⟨retB rfl,Below.refl _ _⟩
theorem eqf_any (f : Nat)
  (IH : Asd (∀ (t t' : Ty5) (v0 v1 v2 v3 v4 u0 u1 u2 u3 u4 : Value) (w : World),szT t ≤ f -> TyIn w t v0 v1 v2 v3 v4 -> TyIn w t' u0 u1 u2 u3 u4 ->
   Calls Try.prog 46 #[.agg #[v0,v1,v2,v3,v4],.agg #[u0,u1,u2,u3,u4]] w fun e w' => e = .returned (.bool (sameT t t')) ∧ Below w.heap.size w w'))
  (ks ks' : List Ty5) (hz : ∀ j,j < ks.length -> szT (kAt ks j) ≤ f) (v u : Value) (w : World) (h : KidsAt w v ks) (g : KidsAt w u ks') (hk : ks.length ≤ maxLen) (hk' : ks'.length ≤ maxLen) :
  Calls Try.prog 45 #[v,u,.func (.func 46) #[] #[]] w fun e w' => e = .returned (.bool (sameL ks ks')) ∧ Below w.heap.size w w' := by
 unfold maxLen at hk hk'
 by_cases hl : ks.length = ks'.length
 case neg =>
  rw [sameL_len hl]
  obtain ⟨a,cap,rfl⟩ := h.form
  obtain ⟨a',cap',rfl⟩ := g.form
  clear h g hz
  go_enter Try.func45,Try.ntmps45
  go_wp2
  go_ret
  exact ⟨rfl,Below.refl _ _⟩
 by_cases q5 : ks = []
 case pos =>
  subst q5
  obtain rfl : ks' = [] := List.length_eq_zero_iff.1 (by simpa using hl.symm)
  obtain ⟨a,cap,rfl⟩ := h.form
  obtain ⟨a',cap',rfl⟩ := g.form
  clear h g hz
  go_enter Try.func45,Try.ntmps45
  go_wp2
  go_rounds 1
  go_ret
  exact ⟨rfl,Below.refl _ _⟩
 have q6 : ks' ≠ [] := by
  rintro rfl
  exact q5 (List.length_eq_zero_iff.1 hl)
 rcases h with ⟨_,_,_,h4⟩ | ⟨b,off,cap,rfl,hr⟩
 ·exact absurd h4 q5
 rcases g with ⟨_,_,_,h4⟩ | ⟨b',off',cap',rfl,hr'⟩
 ·exact absurd h4 q6
 have HR := Asd.mk hr
 have HR' := Asd.mk hr'
 have HL := Asd.mk hl
 have HZ := Asd.mk hz
 rw [← hl]
 clear hr hr' hl hz q5 q6 hk'
 have eg : ∀ args w,(callFunc 46 args).run Try.prog w = .ok (.enter 46 args) w := enters_of Try.func46 (by kernel_rfl) rfl
 go_enter Try.func45,Try.ntmps45
 go_wp2
 go_loopw [17] (fun i wr => ∃ j : Nat,j ≤ ks.length ∧ i = .int .i64 j ∧ Asd (∀ q,q < j -> sameT (kAt ks q) (kAt ks' q) = true) ∧ Below w.heap.size w wr) (fun i _ => ks.length - (intOf i).toNat)
 case atStart => exact ⟨0,by omega,rfl,⟨fun q hq => by omega⟩,Below.refl _ _⟩
 case round =>
  obtain ⟨j,hj,rfl,HA,hb⟩ := hrel
  by_cases hlt : j < ks.length
  ·obtain ⟨x0,x1,x2,x3,x4,c0,c1,c2,c3,c4,ht⟩ := ((HR.out).mono hb).at hlt
   obtain ⟨t0,t1,t2,t3,t4,d0,d1,d2,d3,d4,hu⟩ := ((HR'.out).mono hb).at (by rw [← HL.out];exact hlt : j < ks'.length)
   obtain ⟨k',n',nm',a',l',cc',a'',l'',cc'',rfl,rfl,rfl,rfl,rfl⟩ := ht.form
   obtain ⟨k1,n1,nm1,a1,l1,cc1,a2,l2,cc2,rfl,rfl,rfl,rfl,rfl⟩ := hu.form
   have B2 := two_below wr (.cells #[.int .i64 k',.int .i64 n',.string nm',.slice a' l' cc',.slice a'' l'' cc''] 38) (.cells #[.int .i64 k1,.int .i64 n1,.string nm1,.slice a1 l1 cc1,.slice a2 l2 cc2] 38)
   have C := Asd.mk (IH.out (kAt ks j) (kAt ks' j) _ _ _ _ _ _ _ _ _ _ _ (HZ.out j hlt) (ht.mono B2) (hu.mono B2))
   have D0 := cell_below ((Below.refl wr.heap.size wr).alloc (Nat.le_refl _) (.cells #[.int .i64 k',.int .i64 n',.string nm',.slice a' l' cc',.slice a'' l'' cc''] 38)) d0
   have D1 := cell_below ((Below.refl wr.heap.size wr).alloc (Nat.le_refl _) (.cells #[.int .i64 k',.int .i64 n',.string nm',.slice a' l' cc',.slice a'' l'' cc''] 38)) d1
   have D2 := cell_below ((Below.refl wr.heap.size wr).alloc (Nat.le_refl _) (.cells #[.int .i64 k',.int .i64 n',.string nm',.slice a' l' cc',.slice a'' l'' cc''] 38)) d2
   have D3 := cell_below ((Below.refl wr.heap.size wr).alloc (Nat.le_refl _) (.cells #[.int .i64 k',.int .i64 n',.string nm',.slice a' l' cc',.slice a'' l'' cc''] 38)) d3
   have D4 := cell_below ((Below.refl wr.heap.size wr).alloc (Nat.le_refl _) (.cells #[.int .i64 k',.int .i64 n',.string nm',.slice a' l' cc',.slice a'' l'' cc''] 38)) d4
   have HB := Asd.mk hb
   have HB2 := Asd.mk B2
   clear hb B2 ht hu
   rcases Bool.eq_false_or_eq_true (sameT (kAt ks j) (kAt ks' j)) with hh | hh
   ·go_wp2_with (go_at_fn 46;refine C.out.mono ?_;clear C;rintro e w2 ⟨rfl,hb2⟩;rw [hh])
    go_roundw
    case rel => exact ⟨j + 1,by omega,by go_num,⟨fun q hq => by
     by_cases e : q = j
     ·rw [e];exact hh
     ·exact HA.out q (by omega)⟩,HB.out.trans ((HB2.out.trans (hb2.mono HB2.out.size)).mono HB.out.size)⟩
    case measure => simp [intOf];omega
   ·go_wp2_with (go_at_fn 46;refine C.out.mono ?_;clear C;rintro e w2 ⟨rfl,hb2⟩;rw [hh])
    go_ret
    exact ⟨retB (sameL_differ hlt (by rw [← HL.out];exact hlt) hh).symm,HB.out.trans ((HB2.out.trans (hb2.mono HB2.out.size)).mono HB.out.size)⟩
  ·have : j = ks.length := by omega
   subst this
   go_wp2
   go_ret
   exact ⟨retB (sameL_all HL.out HA.out).symm,hb⟩
theorem psameTy_any : ∀ (f : Nat) (t t' : Ty5) (v0 v1 v2 v3 v4 u0 u1 u2 u3 u4 : Value) (w : World),szT t ≤ f -> TyIn w t v0 v1 v2 v3 v4 -> TyIn w t' u0 u1 u2 u3 u4 ->
  Calls Try.prog 46 #[.agg #[v0,v1,v2,v3,v4],.agg #[u0,u1,u2,u3,u4]] w fun e w' => e = .returned (.bool (sameT t t')) ∧ Below w.heap.size w w'
 | 0,t,_,_,_,_,_,_,_,_,_,_,_,_,h,_,_ => absurd (szT_pos t) (by omega)
 | f + 1,.mk k n nm ls ks,.mk k' n' nm' ls' ks',v0,v1,v2,v3,v4,u0,u1,u2,u3,u4,w,hz,hT,hU => by
  obtain ⟨rfl,rfl,⟨rfl,hm⟩,hl,hk,h4⟩ := hT
  obtain ⟨rfl,rfl,⟨rfl,hm'⟩,hl',hk',h4'⟩ := hU
  have IH := Asd.mk (psameTy_any f)
  have HZ : Asd (∀ j,j < ks.length -> szT (kAt ks j) ≤ f) := ⟨fun j hj => by have := szT_kid (k := k) (n := n) (nm := nm) (ls := ls) hj;omega⟩
  have C := Asd.mk (fun W (hB : Below w.heap.size w W) => equalS_any v3 u3 ls ls' W (hl.mono hB) (hl'.mono hB))
  have D := Asd.mk (fun W (hB : Below w.heap.size w W) => eqf_any f IH ks ks' HZ.out v4 u4 W (h4.elim (fun ⟨a,c,e,h⟩ => .inl ⟨a,c,e,h⟩) (fun ⟨b,o,c,e,h⟩ => .inr ⟨b,o,c,e,h.mono hB⟩)) (h4'.elim (fun ⟨a,c,e,h⟩ => .inl ⟨a,c,e,h⟩) (fun ⟨b,o,c,e,h⟩ => .inr ⟨b,o,c,e,h.mono hB⟩)) hk hk')
  have HB2 := Asd.mk (two_below w (.cells #[.int .i64 k,.int .i64 n,.string nm,v3,v4] 38) (.cells #[.int .i64 k',.int .i64 n',.string nm',u3,u4] 38))
  have Z1 := Asd.mk (two_a w #[.int .i64 k,.int .i64 n,.string nm,v3,v4] #[.int .i64 k',.int .i64 n',.string nm',u3,u4] 38 4 _ rfl)
  have Z2 := Asd.mk (two_b w #[.int .i64 k,.int .i64 n,.string nm,v3,v4] #[.int .i64 k',.int .i64 n',.string nm',u3,u4] 38 4 _ rfl)
  clear hz hm hm' hl hl' hk hk' h4 h4' IH HZ
  by_cases q0 : k = k'
  case neg =>
   rw [show sameT (.mk k n nm ls ks) (.mk k' n' nm' ls' ks') = false by simp [sameT,q0]]
   go_enter Try.func46,Try.ntmps46
   go_wp2
   go_ret
   exact ⟨rfl,by go_grown⟩
  subst q0
  by_cases q1 : n = n'
  case neg =>
   rw [show sameT (.mk k n nm ls ks) (.mk k n' nm' ls' ks') = false by simp [sameT,q1]]
   go_enter Try.func46,Try.ntmps46
   go_wp2
   go_ret
   exact ⟨rfl,by go_grown⟩
  subst q1
  rcases Bool.eq_false_or_eq_true (nm.toList == nm'.toList) with q2 | q2
  case inr =>
   rw [show sameT (.mk k n nm ls ks) (.mk k n nm' ls' ks') = false by simp [sameT,eqS,q2]]
   go_enter Try.func46,Try.ntmps46
   go_wp2
   go_ret
   exact ⟨rfl,by go_grown⟩
  rcases Bool.eq_false_or_eq_true (eqL ls ls') with q3 | q3
  case inr =>
   rw [show sameT (.mk k n nm ls ks) (.mk k n nm' ls' ks') = false by simp [sameT,q3]]
   go_enter Try.func46,Try.ntmps46
   go_wp2_with (go_at_call 47;refine (C.out _ HB2.out).mono ?_;rintro e w2 ⟨rfl,hb2⟩;rw [q3])
   go_ret
   exact ⟨rfl,HB2.out.trans (hb2.mono HB2.out.size)⟩
  rw [show sameT (.mk k n nm ls ks) (.mk k n nm' ls' ks') = sameL ks ks' by simp [sameT,eqS,q2,q3]]
  go_enter Try.func46,Try.ntmps46
  rcases Bool.eq_false_or_eq_true (sameL ks ks') with q4 | q4
  all_goals
   go_wp2_with (first
        | (go_at_call 47; refine (C.out _ HB2.out).mono ?_; rintro e w2 ⟨rfl, hb2⟩; rw [q3]; have HW2 := Asd.mk (HB2.out.trans (hb2.mono HB2.out.size)); have z1 := cell_below hb2 Z1.out; have z2 := cell_below hb2 Z2.out; clear hb2)
        | (go_at_call 45; refine (D.out _ HW2.out).mono ?_; rintro e w3 ⟨rfl, hb3⟩; rw [q4]))
   go_ret
   exact ⟨by rw [q4];rfl,HW2.out.trans (hb3.mono HW2.out.size)⟩
end Go.Proofs.Ytglefhgcfijiaaa

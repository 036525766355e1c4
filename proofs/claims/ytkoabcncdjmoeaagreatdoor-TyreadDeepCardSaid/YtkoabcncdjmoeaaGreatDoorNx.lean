/- Parts of the proof: PwRp, RdB, RdPl. -/
import Derived.Test.YtkoabcncdjmoeaaGreatDoorNd
import Derived.Test.YtkoabcncdjmoeaaGreatDoorNi
import Derived.Test.YtkoabcncdjmoeaaGreatDoorMq
import Derived.Test.YtkoabcncdjmoeaaGreatDoorMt
import Derived.Test.YtkoabcncdjmoeaaGreatDoorMo
import Derived.Test.YtkoabcncdjmoeaaGreatDoorMx
set_option linter.unusedSimpArgs false
set_option linter.unusedVariables false
set_option maxRecDepth 1000000
set_option maxHeartbeats 40000000
namespace Go.Proofs.YtkoabcncdjmoeaaGreatDoor
open Go.RowKit Pv Go.Sort
theorem el_flds : ElemIs (TT ()) 161 163 6 96 := by unfold ElemIs;kernel_rfl
def zeroFld : List D := [.raw (.string ⟨#[]⟩),.raw (.int .i64 0),.raw (.int .i64 0),.raw (.string ⟨#[]⟩),.raw (.slice none 0 0),.raw (.slice none 0 0)]
theorem zero_fld : zeroD (TT ()) 163 = some zeroFld := by kernel_rfl
def laidE (ps : List (ByteArray × Ty5)) (i : Nat) : List (List D) := (ps.take i).map fldD ++ List.replicate (ps.length - i) zeroFld
theorem laidE_row (ps : List (ByteArray × Ty5)) (i : Nat) : ∀ r ∈ laidE ps i,r.length = 6 := by
 intro r hr
 rcases List.mem_append.1 hr with h | h
 ·obtain ⟨p,_,rfl⟩ := List.mem_map.1 h
  exact fldD_len p
 ·rw [List.eq_of_mem_replicate h]
  try rfl
theorem laidE_at (ps : List (ByteArray × Ty5)) {i : Nat} (hi : i < ps.length) : (laidE ps i)[i]? = some zeroFld := by
 unfold laidE
 rw [List.getElem?_append_right (by simp;omega)]
 simp [List.getElem?_replicate]
 omega
theorem laidE_step (ps : List (ByteArray × Ty5)) {i : Nat} {p : ByteArray × Ty5} (hp : ps[i]? = some p) : (laidE ps i).set i (fldD p) = laidE ps (i + 1) := by
 obtain ⟨hi,rfl⟩ := List.getElem?_eq_some_iff.1 hp
 unfold laidE
 rw [List.set_append_right _ _ (by simp;omega)]
 have e1 : i - ((ps.take i).map fldD).length = 0 := by simp;omega
 have e2 : ps.length - i = (ps.length - (i + 1)) + 1 := by omega
 rw [e1,e2,List.replicate_succ,List.set_cons_zero,List.take_succ_eq_append_getElem hi,List.map_append,List.append_assoc]
 try rfl
theorem laidE_zero (ps : List (ByteArray × Ty5)) : laidE ps 0 = List.replicate ps.length zeroFld := by simp [laidE]
theorem laidE_done (ps : List (ByteArray × Ty5)) : (laidE ps ps.length).flatten = ps.flatMap fldD := by simp [laidE,List.flatMap]
theorem pureL_app : ∀ {a b : List D},pureL a = some a -> pureL b = some b -> pureL (a ++ b) = some (a ++ b)
 | [],b,_,h => h
 | d :: r,b,h1,h2 => by
  simp only [pureL] at h1
  split at h1
  ·rename_i d' r' k1 k2
   cases h1
   simp only [List.cons_append,pureL,k1,pureL_app k2 h2]
  ·cases h1
theorem flds_pure : ∀ ps : List (ByteArray × Ty5),pureL (ps.flatMap fldD) = some (ps.flatMap fldD)
 | [] => rfl
 | p :: r => by
  rw [List.flatMap_cons]
  refine pureL_app ?_ (flds_pure r)
  obtain ⟨s,k,n,nm,ls,ks⟩ := p
  simp [fldD,tyD,leavesD,pureL,pureD,tys_pure,strs_pure,strD]
theorem up_of {ss : List ByteArray} {ps : List (ByteArray × Ty5)} (h : ∀ i j,i < j -> (hj : j < ps.length) -> (hi : i < ps.length) -> ltS ps[j].1 ps[i].1 = false) : ∀ j,(h : j + 1 < (ps.map Prod.fst).length) -> ltS (ps.map Prod.fst)[j + 1] (ps.map Prod.fst)[j] = false := by
 intro j hj
 rw [List.length_map] at hj
 rw [List.getElem_map,List.getElem_map]
 exact h j (j + 1) (by omega) hj (by omega)
theorem rec_sorted {ss : List ByteArray} {ks : List Ty5} (hl : ss.length = ks.length) {ps : List (ByteArray × Ty5)} (hp : ps.Perm (ss.zip ks)) (hs : ∀ i j,i < j -> (hj : j < ps.length) -> (hi : i < ps.length) -> ltS ps[j].1 ps[i].1 = false) :
  (risingB (ps.map Prod.fst) = true -> RecIs ss ks true (.mk 8 0 ⟨#[]⟩ (ps.map Prod.fst) (ps.map Prod.snd))) ∧ (risingB (ps.map Prod.fst) = false -> ss.length ≠ ks.length ∨ ((∃ s ∈ ss,fineB s = false) ∨ ¬ ss.Nodup)) := by
 have hm : (ps.map Prod.fst).Perm ss := by
  have := hp.map Prod.fst
  rwa [List.map_fst_zip (by omega)] at this
 refine ⟨fun h => .inl ⟨rfl,hl,ps,hp,h,rfl⟩,fun h => .inr ?_⟩
 rcases not_rising (up_of (ss := ss) hs) h with ⟨s,h1,h2⟩ | h1
 ·exact .inl ⟨s,hm.subset h1,h2⟩
 ·exact .inr fun hn => h1 (hm.nodup_iff.2 hn)
theorem rising_cp (ls : List ByteArray) (hs : ∀ u ∈ ls,u.size ≤ maxLen) : CP (TT ()) 114 [.sl none 1 (ls.map strD)] (· = .raw (.bool (risingB ls))) :=
 cp_raw (callable_at Tryz.func114 (by kernel_rfl) rfl) fun S w args r => by
  obtain ⟨v,rfl,h⟩ := rdL_one r
  exact rising_any v ls w (strs_in h hs)
theorem recp_run (ss : List ByteArray) (ks : List Ty5) (hss : ∀ s ∈ ss,s.size ≤ maxLen) (hl : ss.length = ks.length) (h60 : ss.length ≤ 10000) (Q : D -> H -> Prop) (hQ : ∀ d h',RecQ ss ks d h' -> Q d h') : wfun TT 108 [.sl none 1 (ss.map strD),.sl none 5 (tysD ks)] [] Q := by
 generalize hSS : ss.map strD = SS
 generalize hKS : tysD ks = KS
 have hSl : SS.length = ss.length := by rw [← hSS];simp
 have hKl : KS.length = ks.length := by rw [← hKS];simp [tysD_map]
 have hzl : (ss.zip ks).length = ss.length := by rw [List.length_zip];omega
 have hSi : ∀ m,idbL m SS = true := fun m => pure_idbL m _ (by rw [← hSS];exact strs_pure ss)
 have hKi : ∀ m,idbL m KS = true := fun m => pure_idbL m _ (by rw [← hKS];exact tys_pure ks)
 cbv
 (repeat'((first|(apply zS;kernel_rfl)|(apply zD;decide +kernel)|(apply zE;decide +kernel)|(apply zF;decide +kernel)|(apply zL;decide +kernel)|(apply zM;decide +kernel)|(apply zN;intros)|(apply zO;intros)|(apply zT;omega)|(apply zU;omega)|(apply zP;omega;intros)|(apply zQ;omega;intros)|apply zR);cbv))
 refine MakeK.row el_flds zero_fld (by omega) rfl (by omega) ?_
 intro ds n hn hds
 cbv
 (repeat'((first|(apply zS;kernel_rfl)|(apply zD;decide +kernel)|(apply zE;decide +kernel)|(apply zF;decide +kernel)|(apply zL;decide +kernel)|(apply zM;decide +kernel)|(apply zN;intros)|(apply zO;intros)|(apply zT;omega)|(apply zU;omega)|(apply zP;omega;intros)|(apply zQ;omega;intros)|apply zR);cbv))
 have hn2 : n = (ss.zip ks).length := by omega
 refine LoopK.put (X := Int) (fun x => [(23,.raw (.int .i64 x))]) (fun x => [(1,.box 163 (laidE (ss.zip ks) x.toNat).flatten)]) (fun x => ss.length - x.toNat) (fun x => 0 ≤ x ∧ x.toNat ≤ ss.length) 0 ⟨by simp,by simp⟩ rfl (by rw [hds,hn2,show (0 : Int).toNat = 0 from rfl,laidE_zero];rfl) ?_
 rintro i N ⟨h0,hi⟩ hN
 simp only at h0 hi hN ⊢
 generalize hE : (laidE (ss.zip ks) i.toNat).flatten = E
 cbv
 (repeat'((first|(apply zS;kernel_rfl)|(apply zD;decide +kernel)|(apply zE;decide +kernel)|(apply zF;decide +kernel)|(apply zL;decide +kernel)|(apply zM;decide +kernel)|(apply zN;intros)|(apply zO;intros)|(apply zT;omega)|(apply zU;omega)|(apply zP;omega;intros)|(apply zQ;omega;intros)|apply zR);cbv))
 refine BinK.lss ?_ ?_ <;> intro hlt <;> cbv <;> (repeat'((first|(apply zS;kernel_rfl)|(apply zD;decide +kernel)|(apply zE;decide +kernel)|(apply zF;decide +kernel)|(apply zL;decide +kernel)|(apply zM;decide +kernel)|(apply zN;intros)|(apply zO;intros)|(apply zT;omega)|(apply zU;omega)|(apply zP;omega;intros)|(apply zQ;omega;intros)|apply zR);cbv))
 ·have hi' : i.toNat < ss.length := by omega
  obtain ⟨s,hs⟩ : ∃ s,ss[i.toNat]? = some s := ⟨_,List.getElem?_eq_getElem hi'⟩
  obtain ⟨t,ht⟩ : ∃ t,ks[i.toNat]? = some t := ⟨_,List.getElem?_eq_getElem (by omega)⟩
  have hz : (ss.zip ks)[i.toNat]? = some (s,t) := by rw [List.getElem?_zip_eq_some];exact ⟨hs,ht⟩
  have hS : SS[i.toNat]? = some (.raw (.string s)) := by rw [← hSS,List.getElem?_map,hs];rfl
  have hK : KS[i.toNat]? = some (tyD t) := by rw [← hKS,tysD_map,List.getElem?_map,ht];rfl
  refine IdxK.intro h0 hS ?_
  cbv
  (repeat'((first|(apply zS;kernel_rfl)|(apply zD;decide +kernel)|(apply zE;decide +kernel)|(apply zF;decide +kernel)|(apply zL;decide +kernel)|(apply zM;decide +kernel)|(apply zN;intros)|(apply zO;intros)|(apply zT;omega)|(apply zU;omega)|(apply zP;omega;intros)|(apply zQ;omega;intros)|apply zR);cbv))
  obtain ⟨tk,tn,tm,tl,tks⟩ := t
  simp only [tyD] at hK
  generalize htl : tl.map strD = TL at hK
  generalize htk : tysD tks = TK at hK
  refine IdxK.intro h0 hK ?_
  cbv
  (repeat'((first|(apply zS;kernel_rfl)|(apply zD;decide +kernel)|(apply zE;decide +kernel)|(apply zF;decide +kernel)|(apply zL;decide +kernel)|(apply zM;decide +kernel)|(apply zN;intros)|(apply zO;intros)|(apply zT;omega)|(apply zU;omega)|(apply zP;omega;intros)|(apply zQ;omega;intros)|apply zR);cbv))
  refine MIdxK.intro h0 (by omega) ?_
  intro j hj
  cbv
  (repeat'((first|(apply zS;kernel_rfl)|(apply zD;decide +kernel)|(apply zE;decide +kernel)|(apply zF;decide +kernel)|(apply zL;decide +kernel)|(apply zM;decide +kernel)|(apply zN;intros)|(apply zO;intros)|(apply zT;omega)|(apply zU;omega)|(apply zP;omega;intros)|(apply zQ;omega;intros)|apply zR);cbv))
  refine MStoreK.row hE.symm (laidE_row _ _) (by rw [hj];exact laidE_at _ (by omega)) rfl (by simp) rfl ?_
  intro E' hE'
  cbv
  (repeat'((first|(apply zS;kernel_rfl)|(apply zD;decide +kernel)|(apply zE;decide +kernel)|(apply zF;decide +kernel)|(apply zL;decide +kernel)|(apply zM;decide +kernel)|(apply zN;intros)|(apply zO;intros)|(apply zT;omega)|(apply zU;omega)|(apply zP;omega;intros)|(apply zQ;omega;intros)|apply zR);cbv))
  rename_i r hr
  have hE2 : E' = (laidE (ss.zip ks) r.toNat).flatten := by
   rw [hE',hj,show r.toNat = i.toNat + 1 by omega,← laidE_step _ hz]
   congr 2
   simp [fldD,tyD,leavesD,strD,splice,zeroFld,htl,htk]
  exact RoundK.next r ⟨by omega,by omega⟩ (by omega) rfl (by rw [hE2];rfl)
 ·have hE3 : E = (ss.zip ks).flatMap fldD := by rw [← hE,show i.toNat = (ss.zip ks).length by omega,laidE_done]
  refine CallK.mut (sort_cw _ 1 n (ss.zip ks) (by rw [hE3];rfl) hn2 (by omega)) ?_
  rintro d h' ⟨rfl,ps,hp,hs,rfl⟩
  have hpl : ps.length = ss.length := by rw [hp.length_eq,hzl]
  obtain ⟨hyes,hno⟩ := rec_sorted hl hp hs
  have hpm : ∀ u ∈ ps.map Prod.fst,u.size ≤ maxLen := fun u hu => by
   obtain ⟨q,hq,rfl⟩ := List.mem_map.1 hu
   exact hss _ (List.of_mem_zip (a := q.1) (b := q.2) (hp.subset hq)).1
  have hFi0 : ∀ m,idbL m (ps.flatMap fldD) = true := fun m => pure_idbL m _ (flds_pure ps)
  generalize hF : ps.flatMap fldD = F at hFi0
  have hFi := hFi0
  cbv
  (repeat'((first|(apply zS;kernel_rfl)|(apply zD;decide +kernel)|(apply zE;decide +kernel)|(apply zF;decide +kernel)|(apply zL;decide +kernel)|(apply zM;decide +kernel)|(apply zN;intros)|(apply zO;intros)|(apply zT;omega)|(apply zU;omega)|(apply zP;omega;intros)|(apply zQ;omega;intros)|apply zR);cbv))
  refine LoopK.cellLog 2 3 9 1 rfl rfl ?_
  cbv
  refine LoopK.cellLog 2 4 26 5 rfl rfl ?_
  cbv
  refine LoopK.put (X := Int × List D × List D × Nat × Nat) (fun x => [(43,.raw (.int .i64 x.1))]) (fun x => [(2,.box 26 [.raw (.int .i64 8),.raw (.int .i64 0),.raw (.string ⟨#[]⟩),.sl (some 3) 1 x.2.1,.sl (some 4) 5 x.2.2.1]),(3,.log 9 1 x.2.2.2.1),(4,.log 26 5 x.2.2.2.2)]) (fun x => ss.length - x.1.toNat)
   (fun x => 0 ≤ x.1 ∧ x.1.toNat ≤ ss.length ∧ x.2.1 = ((ps.take x.1.toNat).map Prod.fst).map strD ∧ x.2.2.1 = tysD ((ps.take x.1.toNat).map Prod.snd) ∧ x.2.2.2.1 = x.2.1.length ∧ x.2.2.2.2 = x.2.2.1.length) (0,[],[],0,0) ⟨by simp,by simp,rfl,rfl,rfl,rfl⟩ rfl rfl ?_
  rintro ⟨i,L,A,nl,na⟩ N ⟨h0,hi,hL,hA,hnl,hna⟩ hN
  simp only at h0 hi hL hA hnl hna hN ⊢
  have hLl : L.length = i.toNat := by rw [hL];simp;omega
  have hAl : A.length = i.toNat := by rw [hA];simp [tysD_map];omega
  cbv
  (repeat'((first|(apply zS;kernel_rfl)|(apply zD;decide +kernel)|(apply zE;decide +kernel)|(apply zF;decide +kernel)|(apply zL;decide +kernel)|(apply zM;decide +kernel)|(apply zN;intros)|(apply zO;intros)|(apply zT;omega)|(apply zU;omega)|(apply zP;omega;intros)|(apply zQ;omega;intros)|apply zR);cbv))
  refine BinK.lss ?_ ?_ <;> intro hlt <;> cbv <;> (repeat'((first|(apply zS;kernel_rfl)|(apply zD;decide +kernel)|(apply zE;decide +kernel)|(apply zF;decide +kernel)|(apply zL;decide +kernel)|(apply zM;decide +kernel)|(apply zN;intros)|(apply zO;intros)|(apply zT;omega)|(apply zU;omega)|(apply zP;omega;intros)|(apply zQ;omega;intros)|apply zR);cbv))
  ·refine MIdxK.intro h0 (by omega) ?_
   intro j hj
   cbv
   (repeat'((first|(apply zS;kernel_rfl)|(apply zD;decide +kernel)|(apply zE;decide +kernel)|(apply zF;decide +kernel)|(apply zL;decide +kernel)|(apply zM;decide +kernel)|(apply zN;intros)|(apply zO;intros)|(apply zT;omega)|(apply zU;omega)|(apply zP;omega;intros)|(apply zQ;omega;intros)|apply zR);cbv))
   obtain ⟨⟨s,tk,tn,tm,tl,tks⟩,hpj⟩ : ∃ p,ps[j]? = some p := ⟨_,List.getElem?_eq_getElem (by omega)⟩
   generalize htl : tl.map strD = TL
   generalize htk : tysD tks = TK
   have hrow : (ps.map fldD)[j]? = some [.raw (.string s),.raw (.int .i64 tk),.raw (.int .i64 tn),.raw (.string tm),.sl none 1 TL,.sl none 5 TK] := by
    rw [List.getElem?_map,hpj,← htl,← htk]
    try rfl
   refine MLoadK.row (E := ps.map fldD) (by rw [← hF,List.flatMap]) (fun r hr => by obtain ⟨p,_,rfl⟩ := List.mem_map.1 hr;exact fldD_len p) hrow rfl ?_
   cbv
   (repeat'((first|(apply zS;kernel_rfl)|(apply zD;decide +kernel)|(apply zE;decide +kernel)|(apply zF;decide +kernel)|(apply zL;decide +kernel)|(apply zM;decide +kernel)|(apply zN;intros)|(apply zO;intros)|(apply zT;omega)|(apply zU;omega)|(apply zP;omega;intros)|(apply zQ;omega;intros)|apply zR);cbv))
   refine AppK.sl el_strs el_strs rfl hnl (by simp;omega) ?_
   intro L' nl' hL' hnl'
   cbv
   (repeat'((first|(apply zS;kernel_rfl)|(apply zD;decide +kernel)|(apply zE;decide +kernel)|(apply zF;decide +kernel)|(apply zL;decide +kernel)|(apply zM;decide +kernel)|(apply zN;intros)|(apply zO;intros)|(apply zT;omega)|(apply zU;omega)|(apply zP;omega;intros)|(apply zQ;omega;intros)|apply zR);cbv))
   refine AppK.sl el_tys el_tys rfl hna (by simp;omega) ?_
   intro A' na' hA' hna'
   cbv
   (repeat'((first|(apply zS;kernel_rfl)|(apply zD;decide +kernel)|(apply zE;decide +kernel)|(apply zF;decide +kernel)|(apply zL;decide +kernel)|(apply zM;decide +kernel)|(apply zN;intros)|(apply zO;intros)|(apply zT;omega)|(apply zU;omega)|(apply zP;omega;intros)|(apply zQ;omega;intros)|apply zR);cbv))
   rename_i r hr
   have htake : ps.take (i.toNat + 1) = ps.take i.toNat ++ [(s,(.mk tk tn tm tl tks : Ty5))] := by
    rw [hj] at hpj
    obtain ⟨h1,h2⟩ := List.getElem?_eq_some_iff.1 hpj
    rw [List.take_succ_eq_append_getElem h1,h2]
   have hL2 : L' = ((ps.take r.toNat).map Prod.fst).map strD := by
    rw [hL',hL,show r.toNat = i.toNat + 1 by omega,htake]
    simp [strD]
   have hA2 : A' = tysD ((ps.take r.toNat).map Prod.snd) := by
    rw [hA',hA,show r.toNat = i.toNat + 1 by omega,htake]
    simp [tysD_map,tyD,htl]
    rw [← htk,tysD_map]
   have hLi : ∀ m,idbL m L' = true := fun m => pure_idbL m _ (by rw [hL2];exact strs_pure _)
   have hAi : ∀ m,idbL m A' = true := fun m => pure_idbL m _ (by rw [hA2];exact tys_pure _)
   refine RoundK.forget (r,L',A',nl',na') ⟨by omega,by omega,hL2,hA2,hnl',hna'⟩ (by omega) rfl rfl ?_ ?_
   ·simp [idbL,idb,hSi,hKi]
   ·simp [cellIdb,idbL,idb,hLi,hAi,hFi]
  ·have hall : ps.take i.toNat = ps := List.take_of_length_le (by omega)
   rw [hall] at hL hA
   have hLp : pureL [D.sl (some 3) 1 L] = some [D.sl none 1 ((ps.map Prod.fst).map strD)] := by
    rw [hL]
    simp only [pureL,pureD,strs_pure,Option.map_some]
   refine CallK.one (d := .raw (.bool (risingB (ps.map Prod.fst)))) (rising_cp _ hpm) hLp rfl ?_
   rcases hr : risingB (ps.map Prod.fst) with _ | _
   ·cbv
    (repeat'((first|(apply zS;kernel_rfl)|(apply zD;decide +kernel)|(apply zE;decide +kernel)|(apply zF;decide +kernel)|(apply zL;decide +kernel)|(apply zM;decide +kernel)|(apply zN;intros)|(apply zO;intros)|(apply zT;omega)|(apply zU;omega)|(apply zP;omega;intros)|(apply zQ;omega;intros)|apply zR);cbv))
    exact ⟨hQ _ _ (rec_no (hno hr) _)⟩
   ·cbv
    (repeat'((first|(apply zS;kernel_rfl)|(apply zD;decide +kernel)|(apply zE;decide +kernel)|(apply zF;decide +kernel)|(apply zL;decide +kernel)|(apply zM;decide +kernel)|(apply zN;intros)|(apply zO;intros)|(apply zT;omega)|(apply zU;omega)|(apply zP;omega;intros)|(apply zQ;omega;intros)|apply zR);cbv))
    refine ⟨hQ _ _ ⟨true,_,?_,hyes hr⟩⟩
    rw [hL,hA]
    exact .tup (.cons (.agg (.cons (.refl _) (.cons (.refl _) (.cons (.refl _) (.cons (untag_any _ _ _) (.cons (untag_any _ _ _) .nil)))))) (.cons (.refl _) .nil))
theorem recp_off (ss : List ByteArray) (ks : List Ty5) (hl : ss.length ≠ ks.length) (Q : D -> H -> Prop) (hQ : ∀ d h',RecQ ss ks d h' -> Q d h') : wfun TT 108 [.sl none 1 (ss.map strD),.sl none 5 (tysD ks)] [] Q := by
 generalize hSS : ss.map strD = SS
 generalize hKS : tysD ks = KS
 have hSl : SS.length = ss.length := by rw [← hSS];simp
 have hKl : KS.length = ks.length := by rw [← hKS];simp [tysD_map]
 cbv
 (repeat'((first|(apply zS;kernel_rfl)|(apply zD;decide +kernel)|(apply zE;decide +kernel)|(apply zF;decide +kernel)|(apply zL;decide +kernel)|(apply zM;decide +kernel)|(apply zN;intros)|(apply zO;intros)|(apply zT;omega)|(apply zU;omega)|(apply zP;omega;intros)|(apply zQ;omega;intros)|apply zR);cbv))
 exact ⟨hQ _ _ (rec_no (.inl hl) _)⟩
theorem recp_cp (ss : List ByteArray) (ks : List Ty5) (hss : ∀ s ∈ ss,s.size ≤ maxLen) (h60 : ss.length ≤ 10000) : CP (TT ()) 108 [.sl none 1 (ss.map strD),.sl none 5 (tysD ks)] fun d => ∃ b t,d = .tup [tyD t,.raw (.bool b)] ∧ RecIs ss ks b t := by
 have c : CW (TT ()) 108 [.sl none 1 (ss.map strD),.sl none 5 (tysD ks)] [] (RecQ ss ks) := by
  by_cases hl : ss.length = ks.length
  ·exact wfun_ok (T := TT) (by kernel_rfl) (recp_run ss ks hss hl h60 _ fun _ _ h => h)
  ·exact wfun_ok (T := TT) (by kernel_rfl) (recp_off ss ks hl _ fun _ _ h => h)
 exact (c.weaken (R := fun d _ => ∃ b t,d = .tup [tyD t,.raw (.bool b)] ∧ RecIs ss ks b t) fun d h' ⟨b,t,h1,h2⟩ => ⟨_,h1,b,t,rfl,h2⟩).cp fun d h' ⟨b,t,h1,h2⟩ => ⟨d,by rw [h1];simp [pureD,pureL,ty_pure],b,t,h1,h2⟩
open Go.RowKit Pv
theorem rec_is {ls : List ByteArray} {ks : List Ty5} {b : Bool} {t : Ty5} (h : RecIs ls ks b t) (hl : ls.length = ks.length) (hf : ∀ s ∈ ls,fineB s = true ∧ s.size ≤ maxLen) (hn : ls.Nodup) : b = true ∧ t = recT ls ks := by
 rcases h with ⟨h1,_,P,h2,h3,h4⟩ | ⟨_,_,h | ⟨s,hs,h⟩ | h⟩
 ·exact ⟨h1,by rw [h4,recT_of h2 h3]⟩
 ·exact absurd hl h
 ·rw [(hf s hs).1] at h
  cases h
 ·exact absurd hn h
theorem recp_law (N : Nat) (hN : N ≤ 10000) : RecLaw recT N := fun ls ks hl hlen hf hn =>
 (recp_cp ls ks (fun s hs => (hf s hs).2) (by omega)).mono fun d ⟨b,t,h1,h2⟩ => by
  obtain ⟨rfl,rfl⟩ := rec_is h2 hl hf hn
  exact h1
theorem rec_ok (N : Nat) (hN : N ≤ 10000) : RecOk recT N where
 shape := fun ls ks hl _ hn => by
  obtain ⟨L,K,h1,h2,h3,h4⟩ := recT_shape hl hn
  exact ⟨L,K,h1,h2,h3,fun s u hs _ => h4 s u hs⟩
 calls := fun ls ks hl hlen hf hn => (recs_cp ls ks (fun s hs => (hf s hs).2) (by omega)).mono fun d ⟨b,t,h1,h2⟩ => by
  obtain ⟨rfl,rfl⟩ := rec_is h2 hl hf hn
  exact h1
 start := rfl
theorem readr_is (l : List Tkn) (hll : l.length ≤ 9999) (hs : ∀ j,(tokT l j).s.size ≤ maxLen) (deep : Int) (hd : -2000 ≤ deep) : ReadsR 13 l deep (readS recT l (65 - deep).toNat) :=
 readr_reads recT l (by omega) hs (fields_reads recT l (by omega) hs (rec_ok _ (by omega))) _ deep hd rfl
theorem whole_is (l : List Tkn) (hll : l.length ≤ 9999) (hs : ∀ j,(tokT l j).s.size ≤ maxLen) (deep : Int) (hd : -2000 ≤ deep) : Reads1 32 l deep (readS recT l (65 - deep).toNat) :=
 whole_reads recT l (by omega) hs (recp_law _ (by omega)) _ deep hd rfl
def tknOf (x : Tk) : Tkn := ⟨x.k,x.n,bytesOf x.t,x.a⟩
def toksD (ts : List Tk) : D := .sl none 4 ((ts.map tknOf).map tkD)
theorem toks_rd {S : Nat -> Nat -> Prop} {w w' : World} {v : Value} {ts : List Tk} (h : ToksAt w' v ts) (hn : NewRow w w' v) : ∃ S' : Nat -> Nat -> Prop,(∀ b o,S b o -> S' b o) ∧ (∀ b o,S' b o -> (S b o ∨ (w.heap.size ≤ b ∧ b < w'.heap.size))) ∧ Pv.Rd (bare S') w' (toksD ts) v := by
 obtain ⟨_,h0,g,cap,rfl,hc⟩ := h
 obtain ⟨g',n',cap',e,hg,hg',hn1,hc1⟩ := hn
 simp only [Value.slice.injEq,Option.some.injEq,Addr.mk.injEq,and_true] at e
 obtain ⟨rfl,e2,rfl⟩ := e
 have hlen : n' = ts.length := by omega
 subst hlen
 refine ⟨fun b o => S b o ∨ b = g,fun b o h => .inl h,fun b o h => h.elim .inl fun e => .inr (by rw [e];exact ⟨hg,hg'⟩),?_⟩
 unfold toksD
 refine ⟨⟨some ⟨g,0,none⟩,cap,by simp,by simpa using hn1,hc1⟩,fun _ => ⟨g,0,cap,by simp,fun i hi => .inr rfl,RdE.mk fun i d hd => ?_⟩,fun id e => by cases e⟩
 rw [List.getElem?_map,List.getElem?_map,Option.map_eq_some_iff] at hd
 obtain ⟨y,hy,rfl⟩ := hd
 rw [Option.map_eq_some_iff] at hy
 obtain ⟨x,hx,rfl⟩ := hy
 obtain ⟨hlt,hx2⟩ := List.getElem?_eq_some_iff.1 hx
 have hat : tkAt ts i = x := by simp [tkAt,List.getD,hx]
 obtain ⟨k0,k1,k2,k3⟩ := hc i hlt
 rw [hat] at k0 k1 k2 k3
 refine ⟨.agg #[.int .i64 x.k,.int .i64 x.n,.string (bytesOf x.t),.int .i64 x.a],⟨_,rfl,_,_,rfl,rfl,_,_,rfl,rfl,_,_,rfl,rfl,_,_,rfl,rfl,rfl⟩,rfl,fun c hcm => ?_,fun j hj => ?_⟩
 ·simp [Value.cells] at hcm
  rcases hcm with rfl | rfl | rfl | rfl <;> rfl
 ·have hj : j < 4 := hj
  rcases (by omega : j = 0 ∨ j = 1 ∨ j = 2 ∨ j = 3) with rfl | rfl | rfl | rfl
  ·simpa [Value.cells] using k0
  ·simpa [Value.cells] using k1
  ·simpa [Value.cells] using k2
  ·simpa [Value.cells] using k3
def lexD (o : Out) : D := match o with
 | .ok ts => .tup [toksD ts,.raw .nilIface]
 | .bad c a => .tup [.raw (.slice none 0 0),errR c a]
theorem lex_cp (s : ByteArray) (hs : s.size ≤ maxLen) : CP (TT ()) 24 [.raw (.string s)] (· = lexD (lexAll s.data.toList)) := by
 refine ⟨callable_at Tryz.func24 (by kernel_rfl) rfl,fun S w args hS r => ?_⟩
 obtain ⟨v,rfl,h⟩ := rdL_one r
 simp only [Pv.Rd] at h
 subst h
 refine (all_own s w hs).mono ?_
 rintro e w' ⟨h,hn⟩
 generalize lexAll s.data.toList = o at h hn ⊢
 cases o with
 | ok ts =>
  obtain ⟨v,rfl,hT,hb⟩ := h
  obtain ⟨S',h1,h2,h3⟩ := toks_rd (S := S) hT (hn ts rfl v _ rfl)
  refine ⟨_,S',_,rfl,rfl,hb,h1,fun b o hs => ?_,⟨[v,.nilIface],rfl,_,_,rfl,h3,_,_,rfl,rfl,rfl⟩⟩
  rcases h2 b o hs with h4 | ⟨h4,h5⟩
  ·exact ⟨Nat.lt_of_lt_of_le (hS b o h4) hb.size,fun _ => h4⟩
  ·exact ⟨h5,fun h6 => by omega⟩
 | bad c a =>
  obtain ⟨rfl,hb⟩ := h
  exact ⟨_,S,_,rfl,rfl,hb,fun _ _ h => h,fun b o hs => ⟨Nat.lt_of_lt_of_le (hS b o hs) hb.size,fun _ => hs⟩,⟨[.slice none 0 0,errV c a],rfl,_,_,rfl,rfl,_,_,rfl,rfl,rfl⟩⟩
theorem lexF_size (M : Nat) : ∀ (f : Nat) (l : List UInt8) (p : Nat) (acc ts : List Tk),l.length ≤ M -> (∀ x ∈ acc,x.t.length ≤ 65536 + M) -> lexF f l p acc = .ok ts -> (∀ x ∈ ts,x.t.length ≤ 65536 + M) ∧ ts.length ≤ acc.length + l.length + 1
 | 0,l,p,acc,ts,_,_,e => by simp [lexF] at e
 | f + 1,l,p,acc,ts,hl,ha,e => by
  unfold lexF at e
  split at e
  ·cases e
  ·rename_i k n t wd hit
   have ok := itemE_ok hit
   rw [List.length_drop] at ok
   have hacc : ∀ x ∈ acc ++ [(⟨k,n,t,p + gapN false l⟩ : Tk)],x.t.length ≤ 65536 + M := fun x hx => by
    rcases List.mem_append.1 hx with h | h
    ·exact ha x h
    ·rw [List.mem_singleton.1 h]
     have := ok.2.2.2
     show t.length ≤ _
     omega
   split at e
   ·cases e
    exact ⟨hacc,by simp⟩
   ·rename_i hk
    have h1 := ok.2.2.1 (by simpa using hk)
    obtain ⟨h2,h3⟩ := lexF_size M f _ _ _ ts (by rw [List.length_drop];omega) hacc e
    refine ⟨h2,?_⟩
    rw [List.length_drop,List.length_append] at h3
    simp only [List.length_cons,List.length_nil] at h3
    have := ok.1
    omega
theorem lexAll_size {l : List UInt8} {ts : List Tk} (e : lexAll l = .ok ts) : (∀ x ∈ ts,x.t.length ≤ 65536 + l.length) ∧ ts.length ≤ l.length + 1 := by
 unfold lexAll lexL at e
 split at e
 ·cases e
 ·have := lexF_size l.length _ _ _ _ _ (Nat.le_refl _) (fun x hx => absurd hx List.not_mem_nil) e
  refine ⟨this.1,?_⟩
  have h := this.2
  simp only [List.length_nil] at h
  omega
theorem lexAll_short {l : List UInt8} {ts : List Tk} (e : lexAll l = .ok ts) : l.length ≤ 65536 := by
 unfold lexAll at e
 split at e
 ·cases e
 ·omega
theorem bytesOf_len (l : List UInt8) : (bytesOf l).size = l.length := by rw [← size_list];rfl
theorem toks_small {l : List UInt8} {ts : List Tk} (e : lexAll l = .ok ts) (hl : l.length ≤ 65536) : ∀ j,(tokT (ts.map tknOf) j).s.size ≤ maxLen := fun j => by
 have h := (lexAll_size e).1
 have h0 : (0 : Nat) ≤ maxLen := by decide
 unfold tokT
 split
 ·rw [List.getD,List.getElem?_map]
  cases hx : ts[j.toNat]? with
  | none => exact nil_size
  | some x =>
   have := h x (List.mem_of_getElem? hx)
   show (bytesOf x.t).size ≤ maxLen
   rw [bytesOf_len]
   unfold maxLen
   omega
 ·exact nil_size
def parseS (s : ByteArray) : Rs := match lexAll s.data.toList with
 | .bad c a => .bad c a
 | .ok ts => match readS recT (ts.map tknOf) 64 0 with
  | .ok t to => if (tokT (ts.map tknOf) to).k = 0 then .ok t to else .bad 4 (tokT (ts.map tknOf) to).a
  | .bad e p => .bad e p
def parseD (R : Rs) : D := match R with
 | .ok t _ => .tup [tyD t,.raw .nilIface]
 | .bad e p => .tup [tyD zeroT,errR e p]
theorem parseD_pure (R : Rs) : pureD (parseD R) = some (parseD R) := by
 cases R with
 | ok t to => simp [parseD,pureD,pureL,ty_pure]
 | bad e p => simp [parseD,pureD,pureL,ty_pure,errR]
theorem toksD_pure (ts : List Tk) : pureD (toksD ts) = some (toksD ts) := by
 unfold toksD
 have h := tks_pure (ts.map tknOf)
 generalize (ts.map tknOf).map tkD = L at *
 simp [pureD,h]
theorem lexD_pure (o : Out) : pureD (lexD o) = some (lexD o) := by
 cases o with
 | ok ts => simp [lexD,pureD,pureL,toksD_pure]
 | bad c a => simp [lexD,pureD,pureL,errR]
theorem parse_run (s : ByteArray) (hs : s.size ≤ maxLen) (hT : ∀ ts,lexAll s.data.toList = .ok ts -> ts.length ≤ 9999) (Q : D -> H -> Prop) (hQ : ∀ d h',Wk d (parseD (parseS s)) -> Q d h') : wfun TT 8 [.raw (.string s)] [] Q := by
 have c0 := lex_cp s hs
 have p0 := lexD_pure (lexAll s.data.toList)
 unfold parseS at hQ
 cases hx : lexAll s.data.toList with
 | bad c a =>
  rw [hx] at hQ c0 p0
  cbv
  (repeat'((first|(apply zS;kernel_rfl)|(apply zD;decide +kernel)|(apply zE;decide +kernel)|(apply zF;decide +kernel)|(apply zL;decide +kernel)|(apply zM;decide +kernel)|(apply zN;intros)|(apply zO;intros)|(apply zT;omega)|(apply zU;omega)|(apply zP;omega;intros)|(apply zQ;omega;intros)|apply zR);cbv))
  refine .one c0 rfl p0 ?_
  cbv
  (repeat'((first|(apply zS;kernel_rfl)|(apply zD;decide +kernel)|(apply zE;decide +kernel)|(apply zF;decide +kernel)|(apply zL;decide +kernel)|(apply zM;decide +kernel)|(apply zN;intros)|(apply zO;intros)|(apply zT;omega)|(apply zU;omega)|(apply zP;omega;intros)|(apply zQ;omega;intros)|apply zR);cbv))
  refine BinK.someNe ?_
  cbv
  (repeat'((first|(apply zS;kernel_rfl)|(apply zD;decide +kernel)|(apply zE;decide +kernel)|(apply zF;decide +kernel)|(apply zL;decide +kernel)|(apply zM;decide +kernel)|(apply zN;intros)|(apply zO;intros)|(apply zT;omega)|(apply zU;omega)|(apply zP;omega;intros)|(apply zQ;omega;intros)|apply zR);cbv))
  exact ⟨hQ _ _ (.tup (.cons (simple_wk 0) (.refl _)))⟩
 | ok ts =>
  rw [hx] at hQ c0 p0
  have hsm := toks_small hx (lexAll_short hx)
  simp only at hQ
  have hll : (ts.map tknOf).length ≤ 9999 := by rw [List.length_map];exact hT ts hx
  unfold lexD toksD at c0 p0
  simp only at c0 p0
  generalize ts.map tknOf = l at *
  clear hx hs hT
  have c1 := read_cp l 1 _ (whole_is l (by omega) hsm 1 (by omega)) 0 (by unfold inR;omega)
  have p1 := readD_pure (readS recT l 64 0)
  have hl := tks_pure l
  cases hr : readS recT l 64 0 with
  | bad e p =>
   have c1 : CP (TT ()) 12 [.sl none 4 (l.map tkD),.raw (.int .i64 0),.raw (.int .i64 1)] (· = readD (.bad e p)) := by rw [← hr];exact c1
   rw [hr] at hQ p1
   simp only at hQ
   generalize l.map tkD = L at *
   have hp3 : pureL [.sl none 4 L,.raw (.int .i64 0),.raw (.int .i64 1)] = some [.sl none 4 L,.raw (.int .i64 0),.raw (.int .i64 1)] := by simp [pureL,pureD,hl]
   cbv
   (repeat'((first|(apply zS;kernel_rfl)|(apply zD;decide +kernel)|(apply zE;decide +kernel)|(apply zF;decide +kernel)|(apply zL;decide +kernel)|(apply zM;decide +kernel)|(apply zN;intros)|(apply zO;intros)|(apply zT;omega)|(apply zU;omega)|(apply zP;omega;intros)|(apply zQ;omega;intros)|apply zR);cbv))
   refine .one c0 rfl p0 ?_
   cbv
   (repeat'((first|(apply zS;kernel_rfl)|(apply zD;decide +kernel)|(apply zE;decide +kernel)|(apply zF;decide +kernel)|(apply zL;decide +kernel)|(apply zM;decide +kernel)|(apply zN;intros)|(apply zO;intros)|(apply zT;omega)|(apply zU;omega)|(apply zP;omega;intros)|(apply zQ;omega;intros)|apply zR);cbv))
   refine BinK.nilNe ?_
   cbv
   (repeat'((first|(apply zS;kernel_rfl)|(apply zD;decide +kernel)|(apply zE;decide +kernel)|(apply zF;decide +kernel)|(apply zL;decide +kernel)|(apply zM;decide +kernel)|(apply zN;intros)|(apply zO;intros)|(apply zT;omega)|(apply zU;omega)|(apply zP;omega;intros)|(apply zQ;omega;intros)|apply zR);cbv))
   refine .one c1 hp3 p1 ?_
   cbv
   (repeat'((first|(apply zS;kernel_rfl)|(apply zD;decide +kernel)|(apply zE;decide +kernel)|(apply zF;decide +kernel)|(apply zL;decide +kernel)|(apply zM;decide +kernel)|(apply zN;intros)|(apply zO;intros)|(apply zT;omega)|(apply zU;omega)|(apply zP;omega;intros)|(apply zQ;omega;intros)|apply zR);cbv))
   refine BinK.someNe ?_
   cbv
   (repeat'((first|(apply zS;kernel_rfl)|(apply zD;decide +kernel)|(apply zE;decide +kernel)|(apply zF;decide +kernel)|(apply zL;decide +kernel)|(apply zM;decide +kernel)|(apply zN;intros)|(apply zO;intros)|(apply zT;omega)|(apply zU;omega)|(apply zP;omega;intros)|(apply zQ;omega;intros)|apply zR);cbv))
   exact ⟨hQ _ _ (.tup (.cons (simple_wk 0) (.refl _)))⟩
  | ok t to =>
   have c1 : CP (TT ()) 12 [.sl none 4 (l.map tkD),.raw (.int .i64 0),.raw (.int .i64 1)] (· = readD (.ok t to)) := by rw [← hr];exact c1
   rw [hr] at hQ p1
   simp only at hQ
   have ct := token_cp l to
   have hp := tk_pure (tokT l to)
   have cm := misfit_cp (tokT l to)
   have ce := new_cp (misT (tokT l to)) (tokT l to).a (misT_ne _)
   generalize tokT l to = x at ct hp cm ce hQ
   have hk4 : x.k ≠ 0 -> misT x = 4 := fun h => by unfold misT;rw [if_neg h]
   generalize misT x = c at cm ce hk4
   obtain ⟨k,n,u,a⟩ := x
   simp only [tkD] at ct hp cm ce hQ hk4
   obtain ⟨nt,mt,Lt,Kt,ft,_,_⟩ := ty_nodeR t
   unfold parseD readD at *
   have hok : k = 0 -> ∀ d h',Wk d (.tup [tyD t,.raw .nilIface]) -> Q d h' := fun h => by rw [if_pos h] at hQ;exact hQ
   have hbad : k ≠ 0 -> ∀ d h',Wk d (.tup [tyD zeroT,errR 4 a]) -> Q d h' := fun h => by rw [if_neg h] at hQ;exact hQ
   clear hQ
   simp only at c1 p1
   rw [ft] at c1 p1 hok
   generalize (match t with | .mk k _ _ _ _ => k) = kt at *
   generalize l.map tkD = L at *
   have hp3 : pureL [.sl none 4 L,.raw (.int .i64 0),.raw (.int .i64 1)] = some [.sl none 4 L,.raw (.int .i64 0),.raw (.int .i64 1)] := by simp [pureL,pureD,hl]
   have hp4 : pureL [.sl none 4 L,.raw (.int .i64 to)] = some [.sl none 4 L,.raw (.int .i64 to)] := by simp [pureL,pureD,hl]
   cbv
   (repeat'((first|(apply zS;kernel_rfl)|(apply zD;decide +kernel)|(apply zE;decide +kernel)|(apply zF;decide +kernel)|(apply zL;decide +kernel)|(apply zM;decide +kernel)|(apply zN;intros)|(apply zO;intros)|(apply zT;omega)|(apply zU;omega)|(apply zP;omega;intros)|(apply zQ;omega;intros)|apply zR);cbv))
   refine .one c0 rfl p0 ?_
   cbv
   (repeat'((first|(apply zS;kernel_rfl)|(apply zD;decide +kernel)|(apply zE;decide +kernel)|(apply zF;decide +kernel)|(apply zL;decide +kernel)|(apply zM;decide +kernel)|(apply zN;intros)|(apply zO;intros)|(apply zT;omega)|(apply zU;omega)|(apply zP;omega;intros)|(apply zQ;omega;intros)|apply zR);cbv))
   refine BinK.nilNe ?_
   cbv
   (repeat'((first|(apply zS;kernel_rfl)|(apply zD;decide +kernel)|(apply zE;decide +kernel)|(apply zF;decide +kernel)|(apply zL;decide +kernel)|(apply zM;decide +kernel)|(apply zN;intros)|(apply zO;intros)|(apply zT;omega)|(apply zU;omega)|(apply zP;omega;intros)|(apply zQ;omega;intros)|apply zR);cbv))
   refine .one c1 hp3 p1 ?_
   cbv
   (repeat'((first|(apply zS;kernel_rfl)|(apply zD;decide +kernel)|(apply zE;decide +kernel)|(apply zF;decide +kernel)|(apply zL;decide +kernel)|(apply zM;decide +kernel)|(apply zN;intros)|(apply zO;intros)|(apply zT;omega)|(apply zU;omega)|(apply zP;omega;intros)|(apply zQ;omega;intros)|apply zR);cbv))
   refine BinK.nilNe ?_
   cbv
   (repeat'((first|(apply zS;kernel_rfl)|(apply zD;decide +kernel)|(apply zE;decide +kernel)|(apply zF;decide +kernel)|(apply zL;decide +kernel)|(apply zM;decide +kernel)|(apply zN;intros)|(apply zO;intros)|(apply zT;omega)|(apply zU;omega)|(apply zP;omega;intros)|(apply zQ;omega;intros)|apply zR);cbv))
   refine .one ct hp4 hp ?_
   cbv
   (repeat'((first|(apply zS;kernel_rfl)|(apply zD;decide +kernel)|(apply zE;decide +kernel)|(apply zF;decide +kernel)|(apply zL;decide +kernel)|(apply zM;decide +kernel)|(apply zN;intros)|(apply zO;intros)|(apply zT;omega)|(apply zU;omega)|(apply zP;omega;intros)|(apply zQ;omega;intros)|apply zR);cbv))
   refine BinK.neq ?_ ?_ <;> intro h1 <;> cbv <;> (repeat'((first|(apply zS;kernel_rfl)|(apply zD;decide +kernel)|(apply zE;decide +kernel)|(apply zF;decide +kernel)|(apply zL;decide +kernel)|(apply zM;decide +kernel)|(apply zN;intros)|(apply zO;intros)|(apply zT;omega)|(apply zU;omega)|(apply zP;omega;intros)|(apply zQ;omega;intros)|apply zR);cbv))
   ·obtain rfl := hk4 h1
    refine .one cm (cons_pure hp rfl) rfl ?_
    cbv
    (repeat'((first|(apply zS;kernel_rfl)|(apply zD;decide +kernel)|(apply zE;decide +kernel)|(apply zF;decide +kernel)|(apply zL;decide +kernel)|(apply zM;decide +kernel)|(apply zN;intros)|(apply zO;intros)|(apply zT;omega)|(apply zU;omega)|(apply zP;omega;intros)|(apply zQ;omega;intros)|apply zR);cbv))
    refine .one ce rfl (err_pure _ _) ?_
    cbv
    (repeat'((first|(apply zS;kernel_rfl)|(apply zD;decide +kernel)|(apply zE;decide +kernel)|(apply zF;decide +kernel)|(apply zL;decide +kernel)|(apply zM;decide +kernel)|(apply zN;intros)|(apply zO;intros)|(apply zT;omega)|(apply zU;omega)|(apply zP;omega;intros)|(apply zQ;omega;intros)|apply zR);cbv))
    exact ⟨hbad h1 _ _ (.tup (.cons (simple_wk 0) (.cons (err_wk _ _) (.refl _))))⟩
   ·exact ⟨hok h1 _ _ (.refl _)⟩
theorem parse_cpT (s : ByteArray) (hs : s.size ≤ maxLen) (hT : ∀ ts,lexAll s.data.toList = .ok ts -> ts.length ≤ 9999) : CP (TT ()) 8 [.raw (.string s)] (· = parseD (parseS s)) := runW (parseD_pure _) fun Q hQ => parse_run s hs hT Q hQ
theorem parse_cp (s : ByteArray) (hs : s.size ≤ 2000) : CP (TT ()) 8 [.raw (.string s)] (· = parseD (parseS s)) := parse_cpT s (by unfold maxLen;omega) fun ts h => by
 have := (lexAll_size h).2
 rw [size_list] at this
 omega
end Go.Proofs.YtkoabcncdjmoeaaGreatDoor

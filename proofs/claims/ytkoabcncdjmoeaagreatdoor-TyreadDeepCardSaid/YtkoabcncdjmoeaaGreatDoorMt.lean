/- Parts of the proof: RdP, RdQ, RdX, RdY, RdZ, RdI. -/
import Derived.Test.YtkoabcncdjmoeaaGreatDoorMq
import Derived.Test.YtkoabcncdjmoeaaGreatDoorMs
import Derived.Test.YtkoabcncdjmoeaaGreatDoorMe
set_option linter.unusedSimpArgs false
set_option linter.unusedVariables false
set_option maxRecDepth 1000000
set_option maxHeartbeats 40000000
namespace Go.Proofs.YtkoabcncdjmoeaaGreatDoor
open Go.RowKit Pv
theorem tokr_run (l : List Tkn) (i : Int) (Q : D -> H -> Prop) (hQ : ∀ h',Q (tkD (tokT l i)) h') : wfun TT 29 [.sl none 4 (l.map tkD),.raw (.int .i64 i)] [] Q := by
 have hno : i < 0 ∨ l.length ≤ i.toNat -> ∀ h',Q (.agg [.raw (.int .i64 0),.raw (.int .i64 0),.raw (.string ⟨#[]⟩),.raw (.int .i64 0)]) h' := fun h h' => by
  have := hQ h'
  rwa [show tokT l i = ⟨0,0,⟨#[]⟩,0⟩ by
   unfold tokT
   split
   ·rw [List.getD,List.getElem?_eq_none (by omega)]
    try rfl
   ·rfl] at this
 have hyes : 0 ≤ i -> ∀ t,l[i.toNat]? = some t -> ∀ h',Q (.agg [.raw (.int .i64 t.k),.raw (.int .i64 t.n),.raw (.string t.s),.raw (.int .i64 t.a)]) h' := fun h0 t ht h' => by
  have := hQ h'
  rwa [show tokT l i = t by
   unfold tokT
   rw [if_pos h0,List.getD,ht]
   rfl] at this
 have hl : (l.map tkD).length = l.length := List.length_map ..
 have hat : ∀ j : Nat,j < l.length -> ∃ t,l[j]? = some t ∧ (l.map tkD)[j]? = some (tkD t) := fun j hj => ⟨l[j],List.getElem?_eq_getElem hj,by rw [List.getElem?_map,List.getElem?_eq_getElem hj];rfl⟩
 clear hQ
 generalize l.map tkD = L at hl hat ⊢
 cbv
 (repeat'((first|(apply zS;kernel_rfl)|(apply zD;decide +kernel)|(apply zE;decide +kernel)|(apply zF;decide +kernel)|(apply zL;decide +kernel)|(apply zM;decide +kernel)|(apply zN;intros)|(apply zO;intros)|(apply zT;omega)|(apply zU;omega)|(apply zP;omega;intros)|(apply zQ;omega;intros)|apply zR);cbv))
 refine BinK.lss ?_ ?_ <;> intro h0 <;> cbv <;> (repeat'((first|(apply zS;kernel_rfl)|(apply zD;decide +kernel)|(apply zE;decide +kernel)|(apply zF;decide +kernel)|(apply zL;decide +kernel)|(apply zM;decide +kernel)|(apply zN;intros)|(apply zO;intros)|(apply zT;omega)|(apply zU;omega)|(apply zP;omega;intros)|(apply zQ;omega;intros)|apply zR);cbv))
 ·have hno := hno (.inl h0)
  exact ⟨hno _⟩
 refine BinK.geq ?_ ?_ <;> intro h1 <;> cbv <;> (repeat'((first|(apply zS;kernel_rfl)|(apply zD;decide +kernel)|(apply zE;decide +kernel)|(apply zF;decide +kernel)|(apply zL;decide +kernel)|(apply zM;decide +kernel)|(apply zN;intros)|(apply zO;intros)|(apply zT;omega)|(apply zU;omega)|(apply zP;omega;intros)|(apply zQ;omega;intros)|apply zR);cbv))
 ·have hno := hno (.inr (by omega))
  exact ⟨hno _⟩
 ·obtain ⟨t,ht,hT⟩ := hat i.toNat (by omega)
  have hyes := hyes h0 t ht
  obtain ⟨k,n,s,a⟩ := t
  unfold tkD at hT
  simp only at hT hyes
  refine IdxK.intro h0 hT ?_
  cbv
  (repeat'((first|(apply zS;kernel_rfl)|(apply zD;decide +kernel)|(apply zE;decide +kernel)|(apply zF;decide +kernel)|(apply zL;decide +kernel)|(apply zM;decide +kernel)|(apply zN;intros)|(apply zO;intros)|(apply zT;omega)|(apply zU;omega)|(apply zP;omega;intros)|(apply zQ;omega;intros)|apply zR);cbv))
  exact ⟨hyes _⟩
theorem tokr_cp (l : List Tkn) (i : Int) : CP (TT ()) 29 [.sl none 4 (l.map tkD),.raw (.int .i64 i)] (· = tkD (tokT l i)) :=
 (wfun_ok (T := TT) (by kernel_rfl) (tokr_run l i (fun d _ => d = tkD (tokT l i)) fun _ => rfl)).cp fun d h' h => ⟨d,by rw [h];rfl,h⟩
theorem isr_cp (l : List Tkn) (i : Int) (s : ByteArray) : CP (TT ()) 34 [.sl none 4 (l.map tkD),.raw (.int .i64 i),.raw (.string s)] (· = .raw (.bool (isT l i s))) := by
 refine runV fun Q hQ => ?_
 have ct := tokr_cp l i
 have hl := tks_pure l
 have hp := tk_pure (tokT l i)
 unfold isT at hQ
 generalize tokT l i = t at ct hp hQ
 obtain ⟨k,n,u,a⟩ := t
 simp only [tkD] at ct hp
 simp only at hQ
 generalize l.map tkD = L at ct hl ⊢
 have hpl : pureL [.sl none 4 L,.raw (.int .i64 i)] = some [.sl none 4 L,.raw (.int .i64 i)] := by simp [pureL,pureD,hl]
 cbv
 (repeat'((first|(apply zS;kernel_rfl)|(apply zD;decide +kernel)|(apply zE;decide +kernel)|(apply zF;decide +kernel)|(apply zL;decide +kernel)|(apply zM;decide +kernel)|(apply zN;intros)|(apply zO;intros)|(apply zT;omega)|(apply zU;omega)|(apply zP;omega;intros)|(apply zQ;omega;intros)|apply zR);cbv))
 refine .one ct hpl hp ?_
 cbv
 (repeat'((first|(apply zS;kernel_rfl)|(apply zD;decide +kernel)|(apply zE;decide +kernel)|(apply zF;decide +kernel)|(apply zL;decide +kernel)|(apply zM;decide +kernel)|(apply zN;intros)|(apply zO;intros)|(apply zT;omega)|(apply zU;omega)|(apply zP;omega;intros)|(apply zQ;omega;intros)|apply zR);cbv))
 refine BinK.eql ?_ ?_ <;> intro h0 <;> cbv <;> (repeat'((first|(apply zS;kernel_rfl)|(apply zD;decide +kernel)|(apply zE;decide +kernel)|(apply zF;decide +kernel)|(apply zL;decide +kernel)|(apply zM;decide +kernel)|(apply zN;intros)|(apply zO;intros)|(apply zT;omega)|(apply zU;omega)|(apply zP;omega;intros)|(apply zQ;omega;intros)|apply zR);cbv))
 ·refine BinK.seql ?_ ?_ <;> intro h1 <;> cbv <;> (repeat'((first|(apply zS;kernel_rfl)|(apply zD;decide +kernel)|(apply zE;decide +kernel)|(apply zF;decide +kernel)|(apply zL;decide +kernel)|(apply zM;decide +kernel)|(apply zN;intros)|(apply zO;intros)|(apply zT;omega)|(apply zU;omega)|(apply zP;omega;intros)|(apply zQ;omega;intros)|apply zR);cbv))
  ·rw [decide_eq_true h0,decide_eq_true h1] at hQ
   exact ⟨hQ _⟩
  ·rw [decide_eq_true h0,decide_eq_false h1] at hQ
   exact ⟨hQ _⟩
 ·rw [decide_eq_false h0] at hQ
  exact ⟨hQ _⟩
theorem wrongr_cp (t : Tkn) : CP (TT ()) 36 [tkD t] (· = .tup [.raw (.int .i64 (misT t)),.raw (.int .i64 t.a)]) := by
 refine runW rfl fun Q hQ => ?_
 have hQ := fun h' => hQ _ h' (.refl _)
 obtain ⟨k,n,u,a⟩ := t
 unfold misT at hQ
 simp only [tkD]
 simp only at hQ
 cbv
 (repeat'((first|(apply zS;kernel_rfl)|(apply zD;decide +kernel)|(apply zE;decide +kernel)|(apply zF;decide +kernel)|(apply zL;decide +kernel)|(apply zM;decide +kernel)|(apply zN;intros)|(apply zO;intros)|(apply zT;omega)|(apply zU;omega)|(apply zP;omega;intros)|(apply zQ;omega;intros)|apply zR);cbv))
 refine BinK.eql ?_ ?_ <;> intro h0 <;> cbv <;> (repeat'((first|(apply zS;kernel_rfl)|(apply zD;decide +kernel)|(apply zE;decide +kernel)|(apply zF;decide +kernel)|(apply zL;decide +kernel)|(apply zM;decide +kernel)|(apply zN;intros)|(apply zO;intros)|(apply zT;omega)|(apply zU;omega)|(apply zP;omega;intros)|(apply zQ;omega;intros)|apply zR);cbv))
 ·rw [if_pos h0] at hQ
  exact ⟨hQ _⟩
 ·rw [if_neg h0] at hQ
  exact ⟨hQ _⟩
def wantT (l : List Tkn) (i : Int) (s : ByteArray) : Int × Int := if isT l i s = true then (0,0) else (misT (tokT l i),(tokT l i).a)
theorem wantr_cp (l : List Tkn) (i : Int) (s : ByteArray) : CP (TT ()) 14 [.sl none 4 (l.map tkD),.raw (.int .i64 i),.raw (.string s)] (· = .tup [.raw (.int .i64 (wantT l i s).1),.raw (.int .i64 (wantT l i s).2)]) := by
 refine runW rfl fun Q hQ => ?_
 have hQ := fun h' => hQ _ h' (.refl _)
 have ci := isr_cp l i s
 have ct := tokr_cp l i
 have cw := wrongr_cp (tokT l i)
 have hl := tks_pure l
 have hp := tk_pure (tokT l i)
 unfold wantT at hQ
 generalize isT l i s = b at ci hQ
 generalize misT (tokT l i) = c at cw hQ
 generalize tokT l i = t at ct cw hp hQ
 obtain ⟨k,n,u,a⟩ := t
 simp only [tkD] at ct hp cw
 simp only at hQ
 generalize l.map tkD = L at ci ct hl ⊢
 have hpl : pureL [.sl none 4 L,.raw (.int .i64 i)] = some [.sl none 4 L,.raw (.int .i64 i)] := by simp [pureL,pureD,hl]
 have hpl2 : pureL [.sl none 4 L,.raw (.int .i64 i),.raw (.string s)] = some [.sl none 4 L,.raw (.int .i64 i),.raw (.string s)] := by simp [pureL,pureD,hl]
 cbv
 (repeat'((first|(apply zS;kernel_rfl)|(apply zD;decide +kernel)|(apply zE;decide +kernel)|(apply zF;decide +kernel)|(apply zL;decide +kernel)|(apply zM;decide +kernel)|(apply zN;intros)|(apply zO;intros)|(apply zT;omega)|(apply zU;omega)|(apply zP;omega;intros)|(apply zQ;omega;intros)|apply zR);cbv))
 refine CallK.one ci hpl2 rfl ?_
 cases b with
 | true =>
  rw [if_pos rfl] at hQ
  cbv
  (repeat'((first|(apply zS;kernel_rfl)|(apply zD;decide +kernel)|(apply zE;decide +kernel)|(apply zF;decide +kernel)|(apply zL;decide +kernel)|(apply zM;decide +kernel)|(apply zN;intros)|(apply zO;intros)|(apply zT;omega)|(apply zU;omega)|(apply zP;omega;intros)|(apply zQ;omega;intros)|apply zR);cbv))
  exact ⟨hQ _⟩
 | false =>
  rw [if_neg (by simp)] at hQ
  cbv
  (repeat'((first|(apply zS;kernel_rfl)|(apply zD;decide +kernel)|(apply zE;decide +kernel)|(apply zF;decide +kernel)|(apply zL;decide +kernel)|(apply zM;decide +kernel)|(apply zN;intros)|(apply zO;intros)|(apply zT;omega)|(apply zU;omega)|(apply zP;omega;intros)|(apply zQ;omega;intros)|apply zR);cbv))
  refine CallK.one ct hpl hp ?_
  cbv
  (repeat'((first|(apply zS;kernel_rfl)|(apply zD;decide +kernel)|(apply zE;decide +kernel)|(apply zF;decide +kernel)|(apply zL;decide +kernel)|(apply zM;decide +kernel)|(apply zN;intros)|(apply zO;intros)|(apply zT;omega)|(apply zU;omega)|(apply zP;omega;intros)|(apply zQ;omega;intros)|apply zR);cbv))
  refine CallK.one cw (cons_pure hp rfl) rfl ?_
  cbv
  (repeat'((first|(apply zS;kernel_rfl)|(apply zD;decide +kernel)|(apply zE;decide +kernel)|(apply zF;decide +kernel)|(apply zL;decide +kernel)|(apply zM;decide +kernel)|(apply zN;intros)|(apply zO;intros)|(apply zT;omega)|(apply zU;omega)|(apply zP;omega;intros)|(apply zQ;omega;intros)|apply zR);cbv))
  exact ⟨hQ _⟩
theorem rvarq_any (s : ByteArray) (w : World) (hs : s.size ≤ maxLen) : Calls Tryz.prog 38 #[.string s] w fun e w' => e = .returned (.bool (varB s)) ∧ Below w.heap.size w w' := by
 go_enter Tryz.func38,Tryz.ntmps38
 go_wp2_with (go_at_call 52;refine (rkind_any _ _ hs).mono ?_;rintro e w' ⟨rfl,hb⟩)
 go_ret
 exact ⟨rfl,hb⟩
theorem rvarq_cp (s : ByteArray) (hs : s.size ≤ maxLen) : CP (TT ()) 38 [.raw (.string s)] (· = .raw (.bool (varB s))) :=
 cp_raw (callable_at Tryz.func38 (by kernel_rfl) rfl) fun S w args r => by
  obtain ⟨v,rfl,h⟩ := rdL_one r
  simp only [Pv.Rd] at h
  subst h
  exact rvarq_any s w hs
theorem rfineq_cp (s : ByteArray) (hs : s.size ≤ maxLen) : CP (TT ()) 53 [.raw (.string s)] (· = .raw (.bool (fineB s))) :=
 cp_raw (callable_at Tryz.func53 (by kernel_rfl) rfl) fun S w args r => by
  obtain ⟨v,rfl,h⟩ := rdL_one r
  simp only [Pv.Rd] at h
  subst h
  exact rfine_any s w hs
theorem rplaceq_cp (ls : List ByteArray) (s : ByteArray) (hs : ∀ u ∈ ls,u.size ≤ maxLen) : CP (TT ()) 80 [.sl none 1 (ls.map strD),.raw (.string s)] (· = .raw (.int .i64 (placeI ls s))) :=
 cp_raw (callable_at Tryz.func80 (by kernel_rfl) rfl) fun S w args r => by
  obtain ⟨v,v',rfl,h,h'⟩ := rdL_two r
  simp only [Pv.Rd] at h'
  subst h'
  refine (place_any v ls s w (strs_in h hs)).mono ?_
  rintro e w' ⟨rfl,rfl⟩
  exact ⟨rfl,Below.refl _ _⟩
theorem namedr_cp (t : Tkn) (hs : t.s.size ≤ maxLen) : CP (TT ()) 79 [tkD t] (· = .raw (.bool (decide (t.k = 3) && fineB t.s))) := by
 refine runV fun Q hQ => ?_
 have cf := rfineq_cp t.s hs
 obtain ⟨k,n,u,a⟩ := t
 simp only [tkD] at hQ cf ⊢
 generalize fineB u = b at cf hQ
 cbv
 (repeat'((first|(apply zS;kernel_rfl)|(apply zD;decide +kernel)|(apply zE;decide +kernel)|(apply zF;decide +kernel)|(apply zL;decide +kernel)|(apply zM;decide +kernel)|(apply zN;intros)|(apply zO;intros)|(apply zT;omega)|(apply zU;omega)|(apply zP;omega;intros)|(apply zQ;omega;intros)|apply zR);cbv))
 refine BinK.eql ?_ ?_ <;> intro h0 <;> cbv <;> (repeat'((first|(apply zS;kernel_rfl)|(apply zD;decide +kernel)|(apply zE;decide +kernel)|(apply zF;decide +kernel)|(apply zL;decide +kernel)|(apply zM;decide +kernel)|(apply zN;intros)|(apply zO;intros)|(apply zT;omega)|(apply zU;omega)|(apply zP;omega;intros)|(apply zQ;omega;intros)|apply zR);cbv))
 ·rw [decide_eq_true h0] at hQ
  refine CallK.one cf rfl rfl ?_
  cbv
  (repeat'((first|(apply zS;kernel_rfl)|(apply zD;decide +kernel)|(apply zE;decide +kernel)|(apply zF;decide +kernel)|(apply zL;decide +kernel)|(apply zM;decide +kernel)|(apply zN;intros)|(apply zO;intros)|(apply zT;omega)|(apply zU;omega)|(apply zP;omega;intros)|(apply zQ;omega;intros)|apply zR);cbv))
  exact ⟨hQ _⟩
 ·rw [decide_eq_false h0] at hQ
  exact ⟨hQ _⟩
def flatD : D -> List D
 | .agg l => l
 | d => [d]
def gotD : Rs -> D
 | .ok t to => .agg (flatD (tyD t) ++ [.raw (.int .i64 to),.raw (.int .i64 0),.raw (.int .i64 0)])
 | .bad e p => .agg (flatD (tyD noTy) ++ [.raw (.int .i64 0),.raw (.int .i64 e),.raw (.int .i64 p)])
theorem got_pure (R : Rs) : pureD (gotD R) = some (gotD R) := by
 cases R with
 | bad e p => rfl
 | ok t to =>
  obtain ⟨k,n,nm,ls,ks⟩ := t
  simp [gotD,flatD,tyD,pureD,pureL,strs_pure ls,tys_pure ks]
theorem badr_cp (e p : Int) : CP (TT ()) 28 [.raw (.int .i64 e),.raw (.int .i64 p)] (· = gotD (.bad e p)) := by
 refine runW (got_pure _) fun Q hQ => ?_
 have hQ := fun h' => hQ (.agg [.raw (.int .i64 0),.raw (.int .i64 0),.raw (.string ⟨#[]⟩),.raw (.slice none 0 0),.raw (.slice none 0 0),.raw (.int .i64 0),.raw (.int .i64 e),.raw (.int .i64 p)]) h' (.agg (.cons (.refl _) (.cons (.refl _) (.cons (.refl _) (.cons (nil_any 1) (.cons (nil_any 5) (.cons (.refl _) (.cons (.refl _) (.cons (.refl _) .nil)))))))))
 cbv
 (repeat'((first|(apply zS;kernel_rfl)|(apply zD;decide +kernel)|(apply zE;decide +kernel)|(apply zF;decide +kernel)|(apply zL;decide +kernel)|(apply zM;decide +kernel)|(apply zN;intros)|(apply zO;intros)|(apply zT;omega)|(apply zU;omega)|(apply zP;omega;intros)|(apply zQ;omega;intros)|apply zR);cbv))
 exact ⟨hQ _⟩
theorem rvar4_cp (s : ByteArray) : CP (TT ()) 49 [.raw (.string s)] (· = tyD (.mk 6 0 s [] [])) := by
 refine runW (ty_pure _) fun Q hQ => ?_
 have hQ := fun h' => hQ (.agg [.raw (.int .i64 6),.raw (.int .i64 0),.raw (.string s),.raw (.slice none 0 0),.raw (.slice none 0 0)]) h' (.agg (.cons (.refl _) (.cons (.refl _) (.cons (.refl _) (.cons (nil_any 1) (.cons (nil_any 5) .nil))))))
 cbv
 (repeat'((first|(apply zS;kernel_rfl)|(apply zD;decide +kernel)|(apply zE;decide +kernel)|(apply zF;decide +kernel)|(apply zL;decide +kernel)|(apply zM;decide +kernel)|(apply zN;intros)|(apply zO;intros)|(apply zT;omega)|(apply zU;omega)|(apply zP;omega;intros)|(apply zQ;omega;intros)|apply zR);cbv))
 exact ⟨hQ _⟩
theorem rdyn_cp : CP (TT ()) 50 [] (· = tyD (.mk 5 0 ⟨#[]⟩ [] [])) := by
 refine runW (ty_pure _) fun Q hQ => ?_
 have hQ := fun h' => hQ _ h' (simple_wk 5)
 cbv
 (repeat'((first|(apply zS;kernel_rfl)|(apply zD;decide +kernel)|(apply zE;decide +kernel)|(apply zF;decide +kernel)|(apply zL;decide +kernel)|(apply zM;decide +kernel)|(apply zN;intros)|(apply zO;intros)|(apply zT;omega)|(apply zU;omega)|(apply zP;omega;intros)|(apply zQ;omega;intros)|apply zR);cbv))
 exact ⟨hQ _⟩
theorem rfun_cp (a b : Ty5) : CP (TT ()) 35 [tyD a,tyD b] (· = tyD (.mk 7 0 ⟨#[]⟩ [] [a,b])) := by
 refine runW (ty_pure _) fun Q hQ => ?_
 have hQ := fun tag h' => hQ (.agg [.raw (.int .i64 7),.raw (.int .i64 0),.raw (.string ⟨#[]⟩),.raw (.slice none 0 0),.sl tag 5 [tyD a,tyD b]]) h' (.agg (.cons (.refl _) (.cons (.refl _) (.cons (.refl _) (.cons (nil_any 1) (.cons (untag_any _ _ _) .nil))))))
 obtain ⟨n1,m1,L1,K1,f1,_,_⟩ := ty_nodeR a
 obtain ⟨n2,m2,L2,K2,f2,_,_⟩ := ty_nodeR b
 rw [f1,f2] at hQ ⊢
 generalize (match a with | .mk k _ _ _ _ => k) = ka at hQ ⊢
 generalize (match b with | .mk k _ _ _ _ => k) = kb at hQ ⊢
 cbv
 (repeat'((first|(apply zS;kernel_rfl)|(apply zD;decide +kernel)|(apply zE;decide +kernel)|(apply zF;decide +kernel)|(apply zL;decide +kernel)|(apply zM;decide +kernel)|(apply zN;intros)|(apply zO;intros)|(apply zT;omega)|(apply zU;omega)|(apply zP;omega;intros)|(apply zQ;omega;intros)|apply zR);cbv))
 exact ⟨hQ _ _⟩
def ReadsR (k : FuncId) (l : List Tkn) (deep : Int) (R : Int -> Rs) : Prop := ∀ j,inR j -> CP (TT ()) k [.sl none 4 (l.map tkD),.raw (.int .i64 j),.raw (.int .i64 deep)] (· = gotD (R j))
theorem got_node (t : Ty5) (to : Int) : ∃ k n nm L K,gotD (.ok t to) = .agg [.raw (.int .i64 k),.raw (.int .i64 n),.raw (.string nm),.sl none 1 L,.sl none 5 K,.raw (.int .i64 to),.raw (.int .i64 0),.raw (.int .i64 0)] ∧ tyD t = .agg [.raw (.int .i64 k),.raw (.int .i64 n),.raw (.string nm),.sl none 1 L,.sl none 5 K] ∧ (∀ m,idbL m L = true) ∧ ∀ m,idbL m K = true := by
 obtain ⟨k,n,nm,ls,ks⟩ := t
 exact ⟨k,n,nm,ls.map strD,tysD ks,rfl,rfl,fun m => pure_idbL m _ (strs_pure ls),fun m => pure_idbL m _ (tys_pure ks)⟩
theorem got_any (R : Rs) : ∃ k n nm L K to e p,gotD R = .agg [.raw (.int .i64 k),.raw (.int .i64 n),.raw (.string nm),.sl none 1 L,.sl none 5 K,.raw (.int .i64 to),.raw (.int .i64 e),.raw (.int .i64 p)] ∧ (∀ m,idbL m L = true) ∧ ∀ m,idbL m K = true := by
 cases R with
 | ok t to =>
  obtain ⟨k,n,nm,L,K,h,_,h1,h2⟩ := got_node t to
  exact ⟨k,n,nm,L,K,to,0,0,h,h1,h2⟩
 | bad e p => exact ⟨0,0,⟨#[]⟩,[],[],0,e,p,rfl,fun _ => rfl,fun _ => rfl⟩
theorem wk_got (k to : Int) (s : ByteArray) : Wk (.agg [.raw (.int .i64 k),.raw (.int .i64 0),.raw (.string s),.raw (.slice none 0 0),.raw (.slice none 0 0),.raw (.int .i64 to),.raw (.int .i64 0),.raw (.int .i64 0)]) (gotD (.ok (.mk k 0 s [] []) to)) :=
 .agg (.cons (.refl _) (.cons (.refl _) (.cons (.refl _) (.cons (nil_any 1) (.cons (nil_any 5) (.cons (.refl _) (.cons (.refl _) (.cons (.refl _) .nil))))))))
theorem simpler_run (recT : List ByteArray -> List Ty5 -> Ty5) (rd : Int -> Rs) (l : List Tkn) (hll : l.length ≤ 1000000) (hs : ∀ j,(tokT l j).s.size ≤ maxLen) (deep : Int) (hd : -2000 ≤ deep ∧ deep ≤ 64) (hrd : ∀ i t to,rd i = .ok t to -> to ≤ l.length ∧ i < to) (hne : ∀ i e p,rd i = .bad e p -> e ≠ 0)
  (hw : ReadsR 13 l (deep + 1) rd) (hf : ReadsR 51 l deep fun j => fieldsS recT rd l (l.length + 1) j [] []) (i : Int) (hi : inR i)
  (Q : D -> H -> Prop) (hQ : ∀ d h',Wk d (gotD (simpleS recT rd l i)) -> Q d h') : wfun TT 33 [.sl none 4 (l.map tkD),.raw (.int .i64 i),.raw (.int .i64 deep)] [] Q := by
 have hi' := hi
 unfold inR at hi'
 have hrd2 : ∀ i t to,rd i = .ok t to -> to ≤ 1000000 ∧ i < to := fun i t to e => ⟨by have := (hrd i t to e).1;omega,(hrd i t to e).2⟩
 have ct := tokr_cp l i
 have hl := tks_pure l
 have hp := tk_pure (tokT l i)
 have cW := wrongr_cp (tokT l i)
 have cV := rvarq_cp (tokT l i).s (hs i)
 obtain ⟨t,ht⟩ : ∃ t,t = tokT l i := ⟨_,rfl⟩
 have is1 := isr_cp l i ⟨#[63]⟩
 have is2 := isr_cp l i ⟨#[123]⟩
 have is3 := isr_cp l i ⟨#[40]⟩
 rw [← ht] at ct hp cW cV
 obtain ⟨k,n,u,a⟩ := t
 simp only [tkD] at ct hp cW
 simp only at cV cW
 obtain ⟨c,hc⟩ : ∃ c,c = misT ⟨k,n,u,a⟩ := ⟨_,rfl⟩
 rw [← hc] at cW
 have hS4 : k = 4 -> simpleS recT rd l i = wordS l i := fun h4 => by
  unfold simpleS isT
  rw [← ht]
  simp [h4]
 have hword : ∀ v,k = 4 -> meanT u = some v -> ∀ d h',Wk d (gotD (.ok v (i + 1))) -> Q d h' := fun v h4 hm d h' hd => by
  apply hQ
  rw [hS4 h4]
  unfold wordS
  rw [← ht]
  simp only [h4,if_true,hm]
  exact hd
 have hpl : pureL [.sl none 4 (l.map tkD),.raw (.int .i64 i)] = some [.sl none 4 (l.map tkD),.raw (.int .i64 i)] := by simp [pureL,pureD,hl]
 have hpl3 : ∀ s : ByteArray,pureL [.sl none 4 (l.map tkD),.raw (.int .i64 i),.raw (.string s)] = some [.sl none 4 (l.map tkD),.raw (.int .i64 i),.raw (.string s)] := fun s => by simp [pureL,pureD,hl]
 obtain ⟨i1,hi1⟩ : ∃ i1,i1 = i + 1 := ⟨_,rfl⟩
 rw [← hi1] at hword
 obtain ⟨L,hLL⟩ : ∃ L,l.map tkD = L := ⟨_,rfl⟩
 rw [hLL] at ct hpl hpl3 is1 is2 is3 ⊢
 have hLi : ∀ k,idbL k L = true := fun k => by rw [← hLL];exact tks_idb l k
 cbv
 (repeat'((first|(apply zS;kernel_rfl)|(apply zD;decide +kernel)|(apply zE;decide +kernel)|(apply zF;decide +kernel)|(apply zL;decide +kernel)|(apply zM;decide +kernel)|(apply zN;intros)|(apply zO;intros)|(apply zT;omega)|(apply zU;omega)|(apply zP;omega;intros)|(apply zQ;omega;intros)|apply zR);cbv))
 refine CallK.one ct hpl hp ?_
 cbv
 (repeat'((first|(apply zS;kernel_rfl)|(apply zD;decide +kernel)|(apply zE;decide +kernel)|(apply zF;decide +kernel)|(apply zL;decide +kernel)|(apply zM;decide +kernel)|(apply zN;intros)|(apply zO;intros)|(apply zT;omega)|(apply zU;omega)|(apply zP;omega;intros)|(apply zQ;omega;intros)|apply zR);cbv))
 refine LoopK.put (X := Int) (fun x => [(9,.raw (.int .i64 x))]) (fun _ => []) (fun x => (5 - x).toNat) (fun x => 1 ≤ x ∧ x ≤ 5 ∧ (k = 4 -> (1 < x -> u ≠ ⟨#[73,110,116]⟩) ∧ (2 < x -> u ≠ ⟨#[66,111,111,108]⟩) ∧ (3 < x -> u ≠ ⟨#[83,116,114,105,110,103]⟩) ∧ (4 < x -> u ≠ ⟨#[84,111,112]⟩))) 1 ⟨by omega,by omega,fun _ => ⟨fun h => by omega,fun h => by omega,fun h => by omega,fun h => by omega⟩⟩ rfl rfl ?_
 rintro x N ⟨hx1,hx5,hx⟩ hN
 simp only at hx hN ⊢
 obtain rfl | rfl | rfl | rfl | rfl : x = 1 ∨ x = 2 ∨ x = 3 ∨ x = 4 ∨ x = 5 := by omega
 ·cbv
  (repeat'((first|(apply zS;kernel_rfl)|(apply zD;decide +kernel)|(apply zE;decide +kernel)|(apply zF;decide +kernel)|(apply zL;decide +kernel)|(apply zM;decide +kernel)|(apply zN;intros)|(apply zO;intros)|(apply zT;omega)|(apply zU;omega)|(apply zP;omega;intros)|(apply zQ;omega;intros)|apply zR);cbv))
  rename_i z hz0 hz
  obtain rfl : z = 5 := by
   simp only [List.length_cons,List.length_nil] at hz
   omega
  cbv
  (repeat'((first|(apply zS;kernel_rfl)|(apply zD;decide +kernel)|(apply zE;decide +kernel)|(apply zF;decide +kernel)|(apply zL;decide +kernel)|(apply zM;decide +kernel)|(apply zN;intros)|(apply zO;intros)|(apply zT;omega)|(apply zU;omega)|(apply zP;omega;intros)|(apply zQ;omega;intros)|apply zR);cbv))
  refine BinK.eql ?_ ?_ <;> intro h4 <;> cbv <;> (repeat'((first|(apply zS;kernel_rfl)|(apply zD;decide +kernel)|(apply zE;decide +kernel)|(apply zF;decide +kernel)|(apply zL;decide +kernel)|(apply zM;decide +kernel)|(apply zN;intros)|(apply zO;intros)|(apply zT;omega)|(apply zU;omega)|(apply zP;omega;intros)|(apply zQ;omega;intros)|apply zR);cbv))
  ·refine IdxK.intro (by omega) rfl ?_
   cbv
   (repeat'((first|(apply zS;kernel_rfl)|(apply zD;decide +kernel)|(apply zE;decide +kernel)|(apply zF;decide +kernel)|(apply zL;decide +kernel)|(apply zM;decide +kernel)|(apply zN;intros)|(apply zO;intros)|(apply zT;omega)|(apply zU;omega)|(apply zP;omega;intros)|(apply zQ;omega;intros)|apply zR);cbv))
   refine BinK.seql ?_ ?_ <;> intro h6 <;> cbv <;> (repeat'((first|(apply zS;kernel_rfl)|(apply zD;decide +kernel)|(apply zE;decide +kernel)|(apply zF;decide +kernel)|(apply zL;decide +kernel)|(apply zM;decide +kernel)|(apply zN;intros)|(apply zO;intros)|(apply zT;omega)|(apply zU;omega)|(apply zP;omega;intros)|(apply zQ;omega;intros)|apply zR);cbv))
   ·rename_i r hr
    obtain rfl : r = i1 := by omega
    exact ⟨hword (.mk 1 0 ⟨#[]⟩ [] []) h4 (by rw [h6];rfl) _ _ (wk_got 1 r _)⟩
   ·rename_i r hr
    obtain rfl : r = 2 := by omega
    exact RoundK.next (2 : Int) ⟨by omega,by omega,fun h4 => ⟨fun _ => h6,fun h => absurd h (by omega),fun h => absurd h (by omega),fun h => absurd h (by omega)⟩⟩ (by omega) rfl rfl
  ·rename_i r hr
   obtain rfl : r = 2 := by omega
   exact RoundK.next (2 : Int) ⟨by omega,by omega,fun h => absurd h h4⟩ (by omega) rfl rfl
 ·cbv
  (repeat'((first|(apply zS;kernel_rfl)|(apply zD;decide +kernel)|(apply zE;decide +kernel)|(apply zF;decide +kernel)|(apply zL;decide +kernel)|(apply zM;decide +kernel)|(apply zN;intros)|(apply zO;intros)|(apply zT;omega)|(apply zU;omega)|(apply zP;omega;intros)|(apply zQ;omega;intros)|apply zR);cbv))
  rename_i z hz0 hz
  obtain rfl : z = 5 := by
   simp only [List.length_cons,List.length_nil] at hz
   omega
  cbv
  (repeat'((first|(apply zS;kernel_rfl)|(apply zD;decide +kernel)|(apply zE;decide +kernel)|(apply zF;decide +kernel)|(apply zL;decide +kernel)|(apply zM;decide +kernel)|(apply zN;intros)|(apply zO;intros)|(apply zT;omega)|(apply zU;omega)|(apply zP;omega;intros)|(apply zQ;omega;intros)|apply zR);cbv))
  refine BinK.eql ?_ ?_ <;> intro h4 <;> cbv <;> (repeat'((first|(apply zS;kernel_rfl)|(apply zD;decide +kernel)|(apply zE;decide +kernel)|(apply zF;decide +kernel)|(apply zL;decide +kernel)|(apply zM;decide +kernel)|(apply zN;intros)|(apply zO;intros)|(apply zT;omega)|(apply zU;omega)|(apply zP;omega;intros)|(apply zQ;omega;intros)|apply zR);cbv))
  ·refine IdxK.intro (by omega) rfl ?_
   cbv
   (repeat'((first|(apply zS;kernel_rfl)|(apply zD;decide +kernel)|(apply zE;decide +kernel)|(apply zF;decide +kernel)|(apply zL;decide +kernel)|(apply zM;decide +kernel)|(apply zN;intros)|(apply zO;intros)|(apply zT;omega)|(apply zU;omega)|(apply zP;omega;intros)|(apply zQ;omega;intros)|apply zR);cbv))
   refine BinK.seql ?_ ?_ <;> intro h6 <;> cbv <;> (repeat'((first|(apply zS;kernel_rfl)|(apply zD;decide +kernel)|(apply zE;decide +kernel)|(apply zF;decide +kernel)|(apply zL;decide +kernel)|(apply zM;decide +kernel)|(apply zN;intros)|(apply zO;intros)|(apply zT;omega)|(apply zU;omega)|(apply zP;omega;intros)|(apply zQ;omega;intros)|apply zR);cbv))
   ·rename_i r hr
    obtain rfl : r = i1 := by omega
    exact ⟨hword (.mk 2 0 ⟨#[]⟩ [] []) h4 (by rw [h6];rfl) _ _ (wk_got 2 r _)⟩
   ·rename_i r hr
    obtain rfl : r = 3 := by omega
    exact RoundK.next (3 : Int) ⟨by omega,by omega,fun h4 => ⟨fun _ => (hx h4).1 (by omega),fun _ => h6,fun h => absurd h (by omega),fun h => absurd h (by omega)⟩⟩ (by omega) rfl rfl
  ·rename_i r hr
   obtain rfl : r = 3 := by omega
   exact RoundK.next (3 : Int) ⟨by omega,by omega,fun h => absurd h h4⟩ (by omega) rfl rfl
 ·cbv
  (repeat'((first|(apply zS;kernel_rfl)|(apply zD;decide +kernel)|(apply zE;decide +kernel)|(apply zF;decide +kernel)|(apply zL;decide +kernel)|(apply zM;decide +kernel)|(apply zN;intros)|(apply zO;intros)|(apply zT;omega)|(apply zU;omega)|(apply zP;omega;intros)|(apply zQ;omega;intros)|apply zR);cbv))
  rename_i z hz0 hz
  obtain rfl : z = 5 := by
   simp only [List.length_cons,List.length_nil] at hz
   omega
  cbv
  (repeat'((first|(apply zS;kernel_rfl)|(apply zD;decide +kernel)|(apply zE;decide +kernel)|(apply zF;decide +kernel)|(apply zL;decide +kernel)|(apply zM;decide +kernel)|(apply zN;intros)|(apply zO;intros)|(apply zT;omega)|(apply zU;omega)|(apply zP;omega;intros)|(apply zQ;omega;intros)|apply zR);cbv))
  refine BinK.eql ?_ ?_ <;> intro h4 <;> cbv <;> (repeat'((first|(apply zS;kernel_rfl)|(apply zD;decide +kernel)|(apply zE;decide +kernel)|(apply zF;decide +kernel)|(apply zL;decide +kernel)|(apply zM;decide +kernel)|(apply zN;intros)|(apply zO;intros)|(apply zT;omega)|(apply zU;omega)|(apply zP;omega;intros)|(apply zQ;omega;intros)|apply zR);cbv))
  ·refine IdxK.intro (by omega) rfl ?_
   cbv
   (repeat'((first|(apply zS;kernel_rfl)|(apply zD;decide +kernel)|(apply zE;decide +kernel)|(apply zF;decide +kernel)|(apply zL;decide +kernel)|(apply zM;decide +kernel)|(apply zN;intros)|(apply zO;intros)|(apply zT;omega)|(apply zU;omega)|(apply zP;omega;intros)|(apply zQ;omega;intros)|apply zR);cbv))
   refine BinK.seql ?_ ?_ <;> intro h6 <;> cbv <;> (repeat'((first|(apply zS;kernel_rfl)|(apply zD;decide +kernel)|(apply zE;decide +kernel)|(apply zF;decide +kernel)|(apply zL;decide +kernel)|(apply zM;decide +kernel)|(apply zN;intros)|(apply zO;intros)|(apply zT;omega)|(apply zU;omega)|(apply zP;omega;intros)|(apply zQ;omega;intros)|apply zR);cbv))
   ·rename_i r hr
    obtain rfl : r = i1 := by omega
    exact ⟨hword (.mk 3 0 ⟨#[]⟩ [] []) h4 (by rw [h6];rfl) _ _ (wk_got 3 r _)⟩
   ·rename_i r hr
    obtain rfl : r = 4 := by omega
    exact RoundK.next (4 : Int) ⟨by omega,by omega,fun h4 => ⟨fun _ => (hx h4).1 (by omega),fun _ => (hx h4).2.1 (by omega),fun _ => h6,fun h => absurd h (by omega)⟩⟩ (by omega) rfl rfl
  ·rename_i r hr
   obtain rfl : r = 4 := by omega
   exact RoundK.next (4 : Int) ⟨by omega,by omega,fun h => absurd h h4⟩ (by omega) rfl rfl
 ·cbv
  (repeat'((first|(apply zS;kernel_rfl)|(apply zD;decide +kernel)|(apply zE;decide +kernel)|(apply zF;decide +kernel)|(apply zL;decide +kernel)|(apply zM;decide +kernel)|(apply zN;intros)|(apply zO;intros)|(apply zT;omega)|(apply zU;omega)|(apply zP;omega;intros)|(apply zQ;omega;intros)|apply zR);cbv))
  rename_i z hz0 hz
  obtain rfl : z = 5 := by
   simp only [List.length_cons,List.length_nil] at hz
   omega
  cbv
  (repeat'((first|(apply zS;kernel_rfl)|(apply zD;decide +kernel)|(apply zE;decide +kernel)|(apply zF;decide +kernel)|(apply zL;decide +kernel)|(apply zM;decide +kernel)|(apply zN;intros)|(apply zO;intros)|(apply zT;omega)|(apply zU;omega)|(apply zP;omega;intros)|(apply zQ;omega;intros)|apply zR);cbv))
  refine BinK.eql ?_ ?_ <;> intro h4 <;> cbv <;> (repeat'((first|(apply zS;kernel_rfl)|(apply zD;decide +kernel)|(apply zE;decide +kernel)|(apply zF;decide +kernel)|(apply zL;decide +kernel)|(apply zM;decide +kernel)|(apply zN;intros)|(apply zO;intros)|(apply zT;omega)|(apply zU;omega)|(apply zP;omega;intros)|(apply zQ;omega;intros)|apply zR);cbv))
  ·refine IdxK.intro (by omega) rfl ?_
   cbv
   (repeat'((first|(apply zS;kernel_rfl)|(apply zD;decide +kernel)|(apply zE;decide +kernel)|(apply zF;decide +kernel)|(apply zL;decide +kernel)|(apply zM;decide +kernel)|(apply zN;intros)|(apply zO;intros)|(apply zT;omega)|(apply zU;omega)|(apply zP;omega;intros)|(apply zQ;omega;intros)|apply zR);cbv))
   refine BinK.seql ?_ ?_ <;> intro h6 <;> cbv <;> (repeat'((first|(apply zS;kernel_rfl)|(apply zD;decide +kernel)|(apply zE;decide +kernel)|(apply zF;decide +kernel)|(apply zL;decide +kernel)|(apply zM;decide +kernel)|(apply zN;intros)|(apply zO;intros)|(apply zT;omega)|(apply zU;omega)|(apply zP;omega;intros)|(apply zQ;omega;intros)|apply zR);cbv))
   ·rename_i r hr
    obtain rfl : r = i1 := by omega
    exact ⟨hword (.mk 4 0 ⟨#[]⟩ [] []) h4 (by rw [h6];rfl) _ _ (wk_got 4 r _)⟩
   ·rename_i r hr
    obtain rfl : r = 5 := by omega
    exact RoundK.next (5 : Int) ⟨by omega,by omega,fun h4 => ⟨fun _ => (hx h4).1 (by omega),fun _ => (hx h4).2.1 (by omega),fun _ => (hx h4).2.2.1 (by omega),fun _ => h6⟩⟩ (by omega) rfl rfl
  ·rename_i r hr
   obtain rfl : r = 5 := by omega
   exact RoundK.next (5 : Int) ⟨by omega,by omega,fun h => absurd h h4⟩ (by omega) rfl rfl
 cbv
 (repeat'((first|(apply zS;kernel_rfl)|(apply zD;decide +kernel)|(apply zE;decide +kernel)|(apply zF;decide +kernel)|(apply zL;decide +kernel)|(apply zM;decide +kernel)|(apply zN;intros)|(apply zO;intros)|(apply zT;omega)|(apply zU;omega)|(apply zP;omega;intros)|(apply zQ;omega;intros)|apply zR);cbv))
 rename_i z hz0 hz
 obtain rfl : z = 5 := by
  simp only [List.length_cons,List.length_nil] at hz
  omega
 cbv
 (repeat'((first|(apply zS;kernel_rfl)|(apply zD;decide +kernel)|(apply zE;decide +kernel)|(apply zF;decide +kernel)|(apply zL;decide +kernel)|(apply zM;decide +kernel)|(apply zN;intros)|(apply zO;intros)|(apply zT;omega)|(apply zU;omega)|(apply zP;omega;intros)|(apply zQ;omega;intros)|apply zR);cbv))
 clear ct
 have hwrong : simpleS recT rd l i = wrongT l i -> ∀ d h',Wk d (gotD (.bad c a)) -> Q d h' := fun h d h' hd => hQ d h' (by
  rw [h]
  unfold wrongT
  rw [← ht,← hc]
  exact hd)
 have cB := fun e p => (show CP (TT ()) 28 [.raw (.int .i64 e),.raw (.int .i64 p)] (· = .agg [.raw (.int .i64 0),.raw (.int .i64 0),.raw (.string ⟨#[]⟩),.sl none 1 [],.sl none 5 [],.raw (.int .i64 0),.raw (.int .i64 e),.raw (.int .i64 p)]) from badr_cp e p)
 have cBp : ∀ e p,pureD (.agg [.raw (.int .i64 0),.raw (.int .i64 0),.raw (.string ⟨#[]⟩),.sl none 1 [],.sl none 5 [],.raw (.int .i64 0),.raw (.int .i64 e),.raw (.int .i64 p)]) = some (.agg [.raw (.int .i64 0),.raw (.int .i64 0),.raw (.string ⟨#[]⟩),.sl none 1 [],.sl none 5 [],.raw (.int .i64 0),.raw (.int .i64 e),.raw (.int .i64 p)]) := fun e p => got_pure (.bad e p)
 refine BinK.eql ?_ ?_ <;> intro h4 <;> cbv <;> (repeat'((first|(apply zS;kernel_rfl)|(apply zD;decide +kernel)|(apply zE;decide +kernel)|(apply zF;decide +kernel)|(apply zL;decide +kernel)|(apply zM;decide +kernel)|(apply zN;intros)|(apply zO;intros)|(apply zT;omega)|(apply zU;omega)|(apply zP;omega;intros)|(apply zQ;omega;intros)|apply zR);cbv))
 ·obtain ⟨g1,g2,g3,g4⟩ := hx h4
  have g1 := g1 (by omega)
  have g2 := g2 (by omega)
  have g3 := g3 (by omega)
  have g4 := g4 (by omega)
  have hno : ∀ s,isT l i s = false := fun s => by
   unfold isT
   rw [← ht]
   simp [h4]
  rw [hno] at is1 is2 is3
  have hm : meanT u = if varB u = true then some (.mk 6 0 u [] []) else none := by
   unfold meanT
   rw [if_neg g1,if_neg g2,if_neg g3,if_neg g4]
  refine .one cV rfl rfl ?_
  cases hv : varB u with
  | true =>
   rw [hv,if_pos rfl] at hm
   have c4 := (show CP (TT ()) 49 [.raw (.string u)] (· = .agg [.raw (.int .i64 6),.raw (.int .i64 0),.raw (.string u),.sl none 1 [],.sl none 5 []]) from rvar4_cp u)
   cbv
   (repeat'((first|(apply zS;kernel_rfl)|(apply zD;decide +kernel)|(apply zE;decide +kernel)|(apply zF;decide +kernel)|(apply zL;decide +kernel)|(apply zM;decide +kernel)|(apply zN;intros)|(apply zO;intros)|(apply zT;omega)|(apply zU;omega)|(apply zP;omega;intros)|(apply zQ;omega;intros)|apply zR);cbv))
   refine .one c4 rfl rfl ?_
   cbv
   (repeat'((first|(apply zS;kernel_rfl)|(apply zD;decide +kernel)|(apply zE;decide +kernel)|(apply zF;decide +kernel)|(apply zL;decide +kernel)|(apply zM;decide +kernel)|(apply zN;intros)|(apply zO;intros)|(apply zT;omega)|(apply zU;omega)|(apply zP;omega;intros)|(apply zQ;omega;intros)|apply zR);cbv))
   rename_i r hr
   obtain rfl : r = i1 := by omega
   exact ⟨hword (.mk 6 0 u [] []) h4 hm _ _ (.refl _)⟩
  | false =>
   rw [hv,if_neg (by simp)] at hm
   have hwrong := hwrong (by
    rw [hS4 h4]
    unfold wordS
    rw [← ht]
    simp only [h4,if_true,hm])
   cbv
   (repeat'((first|(apply zS;kernel_rfl)|(apply zD;decide +kernel)|(apply zE;decide +kernel)|(apply zF;decide +kernel)|(apply zL;decide +kernel)|(apply zM;decide +kernel)|(apply zN;intros)|(apply zO;intros)|(apply zT;omega)|(apply zU;omega)|(apply zP;omega;intros)|(apply zQ;omega;intros)|apply zR);cbv))
   refine CallK.one is1 (hpl3 _) rfl ?_
   cbv
   (repeat'((first|(apply zS;kernel_rfl)|(apply zD;decide +kernel)|(apply zE;decide +kernel)|(apply zF;decide +kernel)|(apply zL;decide +kernel)|(apply zM;decide +kernel)|(apply zN;intros)|(apply zO;intros)|(apply zT;omega)|(apply zU;omega)|(apply zP;omega;intros)|(apply zQ;omega;intros)|apply zR);cbv))
   refine CallK.one is2 (hpl3 _) rfl ?_
   cbv
   (repeat'((first|(apply zS;kernel_rfl)|(apply zD;decide +kernel)|(apply zE;decide +kernel)|(apply zF;decide +kernel)|(apply zL;decide +kernel)|(apply zM;decide +kernel)|(apply zN;intros)|(apply zO;intros)|(apply zT;omega)|(apply zU;omega)|(apply zP;omega;intros)|(apply zQ;omega;intros)|apply zR);cbv))
   refine CallK.one is3 (hpl3 _) rfl ?_
   cbv
   (repeat'((first|(apply zS;kernel_rfl)|(apply zD;decide +kernel)|(apply zE;decide +kernel)|(apply zF;decide +kernel)|(apply zL;decide +kernel)|(apply zM;decide +kernel)|(apply zN;intros)|(apply zO;intros)|(apply zT;omega)|(apply zU;omega)|(apply zP;omega;intros)|(apply zQ;omega;intros)|apply zR);cbv))
   refine CallK.one cW rfl rfl ?_
   cbv
   (repeat'((first|(apply zS;kernel_rfl)|(apply zD;decide +kernel)|(apply zE;decide +kernel)|(apply zF;decide +kernel)|(apply zL;decide +kernel)|(apply zM;decide +kernel)|(apply zN;intros)|(apply zO;intros)|(apply zT;omega)|(apply zU;omega)|(apply zP;omega;intros)|(apply zQ;omega;intros)|apply zR);cbv))
   refine CallK.one (cB _ _) rfl (cBp _ _) ?_
   cbv
   (repeat'((first|(apply zS;kernel_rfl)|(apply zD;decide +kernel)|(apply zE;decide +kernel)|(apply zF;decide +kernel)|(apply zL;decide +kernel)|(apply zM;decide +kernel)|(apply zN;intros)|(apply zO;intros)|(apply zT;omega)|(apply zU;omega)|(apply zP;omega;intros)|(apply zQ;omega;intros)|apply zR);cbv))
   exact ⟨hwrong _ _ (.refl _)⟩
 ·clear hword hS4 cV hx
  have hwS : wordS l i = wrongT l i := by
   unfold wordS
   rw [← ht]
   exact if_neg h4
  cases h1 : isT l i ⟨#[63]⟩ with
  | true =>
   rw [h1] at is1
   have cD := (show CP (TT ()) 50 [] (· = .agg [.raw (.int .i64 5),.raw (.int .i64 0),.raw (.string ⟨#[]⟩),.sl none 1 [],.sl none 5 []]) from rdyn_cp)
   have hok := fun d h' hd => hQ d h' (by
    unfold simpleS
    rw [if_pos h1,← hi1]
    exact hd)
   cbv
   (repeat'((first|(apply zS;kernel_rfl)|(apply zD;decide +kernel)|(apply zE;decide +kernel)|(apply zF;decide +kernel)|(apply zL;decide +kernel)|(apply zM;decide +kernel)|(apply zN;intros)|(apply zO;intros)|(apply zT;omega)|(apply zU;omega)|(apply zP;omega;intros)|(apply zQ;omega;intros)|apply zR);cbv))
   refine CallK.one is1 (hpl3 _) rfl ?_
   cbv
   (repeat'((first|(apply zS;kernel_rfl)|(apply zD;decide +kernel)|(apply zE;decide +kernel)|(apply zF;decide +kernel)|(apply zL;decide +kernel)|(apply zM;decide +kernel)|(apply zN;intros)|(apply zO;intros)|(apply zT;omega)|(apply zU;omega)|(apply zP;omega;intros)|(apply zQ;omega;intros)|apply zR);cbv))
   refine .one cD rfl rfl ?_
   cbv
   (repeat'((first|(apply zS;kernel_rfl)|(apply zD;decide +kernel)|(apply zE;decide +kernel)|(apply zF;decide +kernel)|(apply zL;decide +kernel)|(apply zM;decide +kernel)|(apply zN;intros)|(apply zO;intros)|(apply zT;omega)|(apply zU;omega)|(apply zP;omega;intros)|(apply zQ;omega;intros)|apply zR);cbv))
   rename_i r hr
   obtain rfl : r = i1 := by omega
   exact ⟨hok _ _ (.refl _)⟩
  | false =>
  rw [h1] at is1
  cases h2 : isT l i ⟨#[123]⟩ with
  | true =>
   rw [h2] at is2
   have h3 : isT l i ⟨#[40]⟩ = false := by
    unfold isT at h2 ⊢
    rw [← ht] at h2 ⊢
    simp only [Bool.and_eq_true,decide_eq_true_eq] at h2
    simp [h2.2]
   have hS : simpleS recT rd l i = fieldsS recT rd l (l.length + 1) i1 [] [] := by
    unfold simpleS
    rw [h3,if_neg (by rw [h1];simp),if_neg (by simp),if_pos h2,hi1]
   have hlt := isT_lt h2
   have cF := hf i1 ⟨by omega,by omega⟩
   have hG := got_pure (fieldsS recT rd l (l.length + 1) i1 [] [])
   rw [hLL] at cF
   rw [hS] at hQ
   obtain ⟨gk,gn,gm,GL,GK,gto,ge,gp,fG,_,_⟩ := got_any (fieldsS recT rd l (l.length + 1) i1 [] [])
   rw [fG] at hQ cF hG
   have hpl4 : pureL [.sl none 4 L,.raw (.int .i64 i1),.raw (.int .i64 deep)] = some [.sl none 4 L,.raw (.int .i64 i1),.raw (.int .i64 deep)] := by rw [← hLL];simp [pureL,pureD,hl]
   cbv
   (repeat'((first|(apply zS;kernel_rfl)|(apply zD;decide +kernel)|(apply zE;decide +kernel)|(apply zF;decide +kernel)|(apply zL;decide +kernel)|(apply zM;decide +kernel)|(apply zN;intros)|(apply zO;intros)|(apply zT;omega)|(apply zU;omega)|(apply zP;omega;intros)|(apply zQ;omega;intros)|apply zR);cbv))
   refine CallK.one is1 (hpl3 _) rfl ?_
   cbv
   (repeat'((first|(apply zS;kernel_rfl)|(apply zD;decide +kernel)|(apply zE;decide +kernel)|(apply zF;decide +kernel)|(apply zL;decide +kernel)|(apply zM;decide +kernel)|(apply zN;intros)|(apply zO;intros)|(apply zT;omega)|(apply zU;omega)|(apply zP;omega;intros)|(apply zQ;omega;intros)|apply zR);cbv))
   refine CallK.one is2 (hpl3 _) rfl ?_
   cbv
   (repeat'((first|(apply zS;kernel_rfl)|(apply zD;decide +kernel)|(apply zE;decide +kernel)|(apply zF;decide +kernel)|(apply zL;decide +kernel)|(apply zM;decide +kernel)|(apply zN;intros)|(apply zO;intros)|(apply zT;omega)|(apply zU;omega)|(apply zP;omega;intros)|(apply zQ;omega;intros)|apply zR);cbv))
   rename_i r hr
   obtain rfl : r = i1 := by omega
   refine CallK.one cF hpl4 hG ?_
   cbv
   (repeat'((first|(apply zS;kernel_rfl)|(apply zD;decide +kernel)|(apply zE;decide +kernel)|(apply zF;decide +kernel)|(apply zL;decide +kernel)|(apply zM;decide +kernel)|(apply zN;intros)|(apply zO;intros)|(apply zT;omega)|(apply zU;omega)|(apply zP;omega;intros)|(apply zQ;omega;intros)|apply zR);cbv))
   exact ⟨hQ _ _ (.refl _)⟩
  | false =>
  rw [h2] at is2
  cases h3 : isT l i ⟨#[40]⟩ with
  | false =>
   rw [h3] at is3
   have hwrong := hwrong (by
    unfold simpleS
    rw [if_neg (by rw [h1];simp),if_neg (by rw [h3];simp),if_neg (by rw [h2];simp),hwS])
   cbv
   (repeat'((first|(apply zS;kernel_rfl)|(apply zD;decide +kernel)|(apply zE;decide +kernel)|(apply zF;decide +kernel)|(apply zL;decide +kernel)|(apply zM;decide +kernel)|(apply zN;intros)|(apply zO;intros)|(apply zT;omega)|(apply zU;omega)|(apply zP;omega;intros)|(apply zQ;omega;intros)|apply zR);cbv))
   refine CallK.one is1 (hpl3 _) rfl ?_
   cbv
   (repeat'((first|(apply zS;kernel_rfl)|(apply zD;decide +kernel)|(apply zE;decide +kernel)|(apply zF;decide +kernel)|(apply zL;decide +kernel)|(apply zM;decide +kernel)|(apply zN;intros)|(apply zO;intros)|(apply zT;omega)|(apply zU;omega)|(apply zP;omega;intros)|(apply zQ;omega;intros)|apply zR);cbv))
   refine CallK.one is2 (hpl3 _) rfl ?_
   cbv
   (repeat'((first|(apply zS;kernel_rfl)|(apply zD;decide +kernel)|(apply zE;decide +kernel)|(apply zF;decide +kernel)|(apply zL;decide +kernel)|(apply zM;decide +kernel)|(apply zN;intros)|(apply zO;intros)|(apply zT;omega)|(apply zU;omega)|(apply zP;omega;intros)|(apply zQ;omega;intros)|apply zR);cbv))
   refine CallK.one is3 (hpl3 _) rfl ?_
   cbv
   (repeat'((first|(apply zS;kernel_rfl)|(apply zD;decide +kernel)|(apply zE;decide +kernel)|(apply zF;decide +kernel)|(apply zL;decide +kernel)|(apply zM;decide +kernel)|(apply zN;intros)|(apply zO;intros)|(apply zT;omega)|(apply zU;omega)|(apply zP;omega;intros)|(apply zQ;omega;intros)|apply zR);cbv))
   refine CallK.one cW rfl rfl ?_
   cbv
   (repeat'((first|(apply zS;kernel_rfl)|(apply zD;decide +kernel)|(apply zE;decide +kernel)|(apply zF;decide +kernel)|(apply zL;decide +kernel)|(apply zM;decide +kernel)|(apply zN;intros)|(apply zO;intros)|(apply zT;omega)|(apply zU;omega)|(apply zP;omega;intros)|(apply zQ;omega;intros)|apply zR);cbv))
   refine CallK.one (cB _ _) rfl (cBp _ _) ?_
   cbv
   (repeat'((first|(apply zS;kernel_rfl)|(apply zD;decide +kernel)|(apply zE;decide +kernel)|(apply zF;decide +kernel)|(apply zL;decide +kernel)|(apply zM;decide +kernel)|(apply zN;intros)|(apply zO;intros)|(apply zT;omega)|(apply zU;omega)|(apply zP;omega;intros)|(apply zQ;omega;intros)|apply zR);cbv))
   exact ⟨hwrong _ _ (.refl _)⟩
  | true =>
   rw [h3] at is3
   have hlt := isT_lt h3
   have hS : simpleS recT rd l i = match rd i1 with
     | .ok t to => if isT l to ⟨#[41]⟩ = true then .ok t (to + 1) else wrongT l to
     | .bad e p => .bad e p := by
    unfold simpleS
    rw [if_neg (by rw [h1];simp),if_pos h3,hi1]
    try rfl
   have cF := hw i1 ⟨by omega,by omega⟩
   have hG := got_pure (rd i1)
   rw [hLL] at cF
   obtain ⟨dp,hdp⟩ : ∃ dp,dp = deep + 1 := ⟨_,rfl⟩
   rw [← hdp] at cF
   have hpl4 : pureL [.sl none 4 L,.raw (.int .i64 i1),.raw (.int .i64 dp)] = some [.sl none 4 L,.raw (.int .i64 i1),.raw (.int .i64 dp)] := by rw [← hLL];simp [pureL,pureD,hl]
   cases hr1 : rd i1 with
   | bad e p =>
    have he := hne _ _ _ hr1
    rw [hr1] at hS cF hG
    rw [hS] at hQ
    have cF := (show CP (TT ()) 13 [.sl none 4 L,.raw (.int .i64 i1),.raw (.int .i64 dp)] (· = .agg [.raw (.int .i64 0),.raw (.int .i64 0),.raw (.string ⟨#[]⟩),.sl none 1 [],.sl none 5 [],.raw (.int .i64 0),.raw (.int .i64 e),.raw (.int .i64 p)]) from cF)
    cbv
    (repeat'((first|(apply zS;kernel_rfl)|(apply zD;decide +kernel)|(apply zE;decide +kernel)|(apply zF;decide +kernel)|(apply zL;decide +kernel)|(apply zM;decide +kernel)|(apply zN;intros)|(apply zO;intros)|(apply zT;omega)|(apply zU;omega)|(apply zP;omega;intros)|(apply zQ;omega;intros)|apply zR);cbv))
    refine CallK.one is1 (hpl3 _) rfl ?_
    cbv
    (repeat'((first|(apply zS;kernel_rfl)|(apply zD;decide +kernel)|(apply zE;decide +kernel)|(apply zF;decide +kernel)|(apply zL;decide +kernel)|(apply zM;decide +kernel)|(apply zN;intros)|(apply zO;intros)|(apply zT;omega)|(apply zU;omega)|(apply zP;omega;intros)|(apply zQ;omega;intros)|apply zR);cbv))
    refine CallK.one is2 (hpl3 _) rfl ?_
    cbv
    (repeat'((first|(apply zS;kernel_rfl)|(apply zD;decide +kernel)|(apply zE;decide +kernel)|(apply zF;decide +kernel)|(apply zL;decide +kernel)|(apply zM;decide +kernel)|(apply zN;intros)|(apply zO;intros)|(apply zT;omega)|(apply zU;omega)|(apply zP;omega;intros)|(apply zQ;omega;intros)|apply zR);cbv))
    refine CallK.one is3 (hpl3 _) rfl ?_
    cbv
    (repeat'((first|(apply zS;kernel_rfl)|(apply zD;decide +kernel)|(apply zE;decide +kernel)|(apply zF;decide +kernel)|(apply zL;decide +kernel)|(apply zM;decide +kernel)|(apply zN;intros)|(apply zO;intros)|(apply zT;omega)|(apply zU;omega)|(apply zP;omega;intros)|(apply zQ;omega;intros)|apply zR);cbv))
    rename_i r hr r' hr'
    obtain rfl : r = i1 := by omega
    obtain rfl : r' = dp := by omega
    refine CallK.one cF hpl4 (cBp _ _) ?_
    cbv
    (repeat'((first|(apply zS;kernel_rfl)|(apply zD;decide +kernel)|(apply zE;decide +kernel)|(apply zF;decide +kernel)|(apply zL;decide +kernel)|(apply zM;decide +kernel)|(apply zN;intros)|(apply zO;intros)|(apply zT;omega)|(apply zU;omega)|(apply zP;omega;intros)|(apply zQ;omega;intros)|apply zR);cbv))
    exact ⟨hQ _ _ (.refl _)⟩
   | ok t to =>
    have hto := hrd2 _ _ _ hr1
    have htb : -3000000 ≤ to ∧ to ≤ 3000000 := ⟨by omega,by omega⟩
    rw [hr1] at hS cF hG
    obtain ⟨tk,tn,tnm,TL,TK,fg,ft,hTL,hTK⟩ := got_node t to
    have cN := wantr_cp l to ⟨#[41]⟩
    rw [hLL] at cN
    have hpn : pureL [.sl none 4 L,.raw (.int .i64 to),.raw (.string ⟨#[41]⟩)] = some [.sl none 4 L,.raw (.int .i64 to),.raw (.string ⟨#[41]⟩)] := by rw [← hLL];simp [pureL,pureD,hl]
    unfold wantT at cN
    rw [fg] at cF hG
    cases h5 : isT l to ⟨#[41]⟩ with
    | true =>
     rw [if_pos h5] at cN
     simp only at cN
     obtain ⟨to1,hto1⟩ : ∃ x,x = to + 1 := ⟨_,rfl⟩
     have hok := fun d h' hd => hQ d h' (by
      rw [hS]
      simp only [h5,if_true]
      show Wk d (.agg (flatD (tyD t) ++ [.raw (.int .i64 (to + 1)),.raw (.int .i64 0),.raw (.int .i64 0)]))
      rw [ft,← hto1]
      exact hd)
     cbv
     (repeat'((first|(apply zS;kernel_rfl)|(apply zD;decide +kernel)|(apply zE;decide +kernel)|(apply zF;decide +kernel)|(apply zL;decide +kernel)|(apply zM;decide +kernel)|(apply zN;intros)|(apply zO;intros)|(apply zT;omega)|(apply zU;omega)|(apply zP;omega;intros)|(apply zQ;omega;intros)|apply zR);cbv))
     refine CallK.one is1 (hpl3 _) rfl ?_
     cbv
     (repeat'((first|(apply zS;kernel_rfl)|(apply zD;decide +kernel)|(apply zE;decide +kernel)|(apply zF;decide +kernel)|(apply zL;decide +kernel)|(apply zM;decide +kernel)|(apply zN;intros)|(apply zO;intros)|(apply zT;omega)|(apply zU;omega)|(apply zP;omega;intros)|(apply zQ;omega;intros)|apply zR);cbv))
     refine CallK.one is2 (hpl3 _) rfl ?_
     cbv
     (repeat'((first|(apply zS;kernel_rfl)|(apply zD;decide +kernel)|(apply zE;decide +kernel)|(apply zF;decide +kernel)|(apply zL;decide +kernel)|(apply zM;decide +kernel)|(apply zN;intros)|(apply zO;intros)|(apply zT;omega)|(apply zU;omega)|(apply zP;omega;intros)|(apply zQ;omega;intros)|apply zR);cbv))
     refine CallK.one is3 (hpl3 _) rfl ?_
     cbv
     (repeat'((first|(apply zS;kernel_rfl)|(apply zD;decide +kernel)|(apply zE;decide +kernel)|(apply zF;decide +kernel)|(apply zL;decide +kernel)|(apply zM;decide +kernel)|(apply zN;intros)|(apply zO;intros)|(apply zT;omega)|(apply zU;omega)|(apply zP;omega;intros)|(apply zQ;omega;intros)|apply zR);cbv))
     rename_i r hr r' hr'
     obtain rfl : r = i1 := by omega
     obtain rfl : r' = dp := by omega
     refine CallK.one cF hpl4 hG ?_
     cbv
     (repeat'((first|(apply zS;kernel_rfl)|(apply zD;decide +kernel)|(apply zE;decide +kernel)|(apply zF;decide +kernel)|(apply zL;decide +kernel)|(apply zM;decide +kernel)|(apply zN;intros)|(apply zO;intros)|(apply zT;omega)|(apply zU;omega)|(apply zP;omega;intros)|(apply zQ;omega;intros)|apply zR);cbv))
     refine CallK.one cN hpn rfl ?_
     cbv
     (repeat'((first|(apply zS;kernel_rfl)|(apply zD;decide +kernel)|(apply zE;decide +kernel)|(apply zF;decide +kernel)|(apply zL;decide +kernel)|(apply zM;decide +kernel)|(apply zN;intros)|(apply zO;intros)|(apply zT;omega)|(apply zU;omega)|(apply zP;omega;intros)|(apply zQ;omega;intros)|apply zR);cbv))
     rename_i q hq
     obtain rfl : q = to1 := by omega
     exact ⟨hok _ _ (.refl _)⟩
    | false =>
     rw [if_neg (by rw [h5];simp)] at cN
     simp only at cN
     have hm := misT_ne (tokT l to)
     have hbad := fun d h' hd => hQ d h' (by
      rw [hS]
      simp only [h5,Bool.false_eq_true,if_false]
      unfold wrongT
      exact hd)
     generalize misT (tokT l to) = c2 at cN hm hbad
     generalize (tokT l to).a = a2 at cN hbad
     cbv
     (repeat'((first|(apply zS;kernel_rfl)|(apply zD;decide +kernel)|(apply zE;decide +kernel)|(apply zF;decide +kernel)|(apply zL;decide +kernel)|(apply zM;decide +kernel)|(apply zN;intros)|(apply zO;intros)|(apply zT;omega)|(apply zU;omega)|(apply zP;omega;intros)|(apply zQ;omega;intros)|apply zR);cbv))
     refine CallK.one is1 (hpl3 _) rfl ?_
     cbv
     (repeat'((first|(apply zS;kernel_rfl)|(apply zD;decide +kernel)|(apply zE;decide +kernel)|(apply zF;decide +kernel)|(apply zL;decide +kernel)|(apply zM;decide +kernel)|(apply zN;intros)|(apply zO;intros)|(apply zT;omega)|(apply zU;omega)|(apply zP;omega;intros)|(apply zQ;omega;intros)|apply zR);cbv))
     refine CallK.one is2 (hpl3 _) rfl ?_
     cbv
     (repeat'((first|(apply zS;kernel_rfl)|(apply zD;decide +kernel)|(apply zE;decide +kernel)|(apply zF;decide +kernel)|(apply zL;decide +kernel)|(apply zM;decide +kernel)|(apply zN;intros)|(apply zO;intros)|(apply zT;omega)|(apply zU;omega)|(apply zP;omega;intros)|(apply zQ;omega;intros)|apply zR);cbv))
     refine CallK.one is3 (hpl3 _) rfl ?_
     cbv
     (repeat'((first|(apply zS;kernel_rfl)|(apply zD;decide +kernel)|(apply zE;decide +kernel)|(apply zF;decide +kernel)|(apply zL;decide +kernel)|(apply zM;decide +kernel)|(apply zN;intros)|(apply zO;intros)|(apply zT;omega)|(apply zU;omega)|(apply zP;omega;intros)|(apply zQ;omega;intros)|apply zR);cbv))
     rename_i r hr r' hr'
     obtain rfl : r = i1 := by omega
     obtain rfl : r' = dp := by omega
     refine CallK.one cF hpl4 hG ?_
     cbv
     (repeat'((first|(apply zS;kernel_rfl)|(apply zD;decide +kernel)|(apply zE;decide +kernel)|(apply zF;decide +kernel)|(apply zL;decide +kernel)|(apply zM;decide +kernel)|(apply zN;intros)|(apply zO;intros)|(apply zT;omega)|(apply zU;omega)|(apply zP;omega;intros)|(apply zQ;omega;intros)|apply zR);cbv))
     refine CallK.one cN hpn rfl ?_
     cbv
     (repeat'((first|(apply zS;kernel_rfl)|(apply zD;decide +kernel)|(apply zE;decide +kernel)|(apply zF;decide +kernel)|(apply zL;decide +kernel)|(apply zM;decide +kernel)|(apply zN;intros)|(apply zO;intros)|(apply zT;omega)|(apply zU;omega)|(apply zP;omega;intros)|(apply zQ;omega;intros)|apply zR);cbv))
     refine CallK.one (cB _ _) rfl (cBp _ _) ?_
     cbv
     (repeat'((first|(apply zS;kernel_rfl)|(apply zD;decide +kernel)|(apply zE;decide +kernel)|(apply zF;decide +kernel)|(apply zL;decide +kernel)|(apply zM;decide +kernel)|(apply zN;intros)|(apply zO;intros)|(apply zT;omega)|(apply zU;omega)|(apply zP;omega;intros)|(apply zQ;omega;intros)|apply zR);cbv))
     exact ⟨hbad _ _ (.refl _)⟩
theorem wrongT_ne {l : List Tkn} {i e p : Int} (h : wrongT l i = .bad e p) : e ≠ 0 := by
 unfold wrongT at h
 cases h
 exact misT_ne _
theorem labelS_ne {rd : Int -> Rs} {l : List Tkn} (h : ∀ i e p,rd i = .bad e p -> e ≠ 0) {next : Int -> List ByteArray -> List Ty5 -> Rs} (hn : ∀ i ls ks e p,next i ls ks = .bad e p -> e ≠ 0) {j : Int} {ls : List ByteArray} {ks : List Ty5} {e p : Int} (x : labelS rd l next j ls ks = .bad e p) : e ≠ 0 := by
 unfold labelS at x
 split at x
 ·split at x
  ·cases x;decide
  split at x
  ·split at x
   ·exact hn _ _ _ _ _ x
   ·rename_i hr
    cases x
    exact h _ _ _ hr
  ·exact wrongT_ne x
 ·exact wrongT_ne x
theorem fieldsS_ne {recT : List ByteArray -> List Ty5 -> Ty5} {rd : Int -> Rs} {l : List Tkn} (h : ∀ i e p,rd i = .bad e p -> e ≠ 0) : ∀ {f : Nat} {i : Int} {ls : List ByteArray} {ks : List Ty5} {e p : Int},fieldsS recT rd l f i ls ks = .bad e p -> e ≠ 0
 | 0,i,ls,ks,e,p,x => wrongT_ne (by simpa only [fieldsS] using x)
 | f + 1,i,ls,ks,e,p,x => by
  simp only [fieldsS] at x
  split at x
  ·cases x
  split at x
  ·exact wrongT_ne x
  ·exact labelS_ne h (fun _ _ _ _ _ x => fieldsS_ne h x) x
theorem simpleS_ne {recT : List ByteArray -> List Ty5 -> Ty5} {rd : Int -> Rs} {l : List Tkn} (h : ∀ i e p,rd i = .bad e p -> e ≠ 0) {i e p : Int} (x : simpleS recT rd l i = .bad e p) : e ≠ 0 := by
 unfold simpleS at x
 split at x
 ·cases x
 split at x
 ·split at x
  ·split at x
   ·cases x
   ·exact wrongT_ne x
  ·rename_i hr
   cases x
   exact h _ _ _ hr
 split at x
 ·exact fieldsS_ne h x
 ·unfold wordS at x
  split at x
  ·split at x
   ·cases x
   ·exact wrongT_ne x
  ·exact wrongT_ne x
theorem readS_ne {recT : List ByteArray -> List Ty5 -> Ty5} {l : List Tkn} : ∀ {n : Nat} {i e p : Int},readS recT l n i = .bad e p -> e ≠ 0
 | 0,i,e,p,x => by
  simp only [readS] at x
  cases x
  decide
 | n + 1,i,e,p,x => by
  simp only [readS] at x
  split at x
  ·split at x
   ·split at x
    ·cases x
    ·rename_i hr
     cases x
     exact readS_ne hr
   ·cases x
  ·rename_i hr
   cases x
   exact simpleS_ne (fun i e p h => readS_ne h) hr
theorem readr_deep (l : List Tkn) (deep : Int) (hd : 64 < deep) (i : Int) (Q : D -> H -> Prop) (hQ : ∀ d h',Wk d (gotD (.bad 7 (tokT l i).a)) -> Q d h') : wfun TT 13 [.sl none 4 (l.map tkD),.raw (.int .i64 i),.raw (.int .i64 deep)] [] Q := by
 have ct := tokr_cp l i
 have hl := tks_pure l
 have hp := tk_pure (tokT l i)
 generalize tokT l i = t at ct hp hQ
 obtain ⟨k,n,u,a⟩ := t
 simp only [tkD] at ct hp
 simp only at hQ
 have cB := (show CP (TT ()) 28 [.raw (.int .i64 7),.raw (.int .i64 a)] (· = .agg [.raw (.int .i64 0),.raw (.int .i64 0),.raw (.string ⟨#[]⟩),.sl none 1 [],.sl none 5 [],.raw (.int .i64 0),.raw (.int .i64 7),.raw (.int .i64 a)]) from badr_cp 7 a)
 have cBp := got_pure (.bad 7 a)
 have hpl : pureL [.sl none 4 (l.map tkD),.raw (.int .i64 i)] = some [.sl none 4 (l.map tkD),.raw (.int .i64 i)] := by simp [pureL,pureD,hl]
 have hLi := tks_idb l
 generalize l.map tkD = L at ct hpl hLi ⊢
 cbv
 (repeat'((first|(apply zS;kernel_rfl)|(apply zD;decide +kernel)|(apply zE;decide +kernel)|(apply zF;decide +kernel)|(apply zL;decide +kernel)|(apply zM;decide +kernel)|(apply zN;intros)|(apply zO;intros)|(apply zT;omega)|(apply zU;omega)|(apply zP;omega;intros)|(apply zQ;omega;intros)|apply zR);cbv))
 refine CallK.one ct hpl hp ?_
 cbv
 (repeat'((first|(apply zS;kernel_rfl)|(apply zD;decide +kernel)|(apply zE;decide +kernel)|(apply zF;decide +kernel)|(apply zL;decide +kernel)|(apply zM;decide +kernel)|(apply zN;intros)|(apply zO;intros)|(apply zT;omega)|(apply zU;omega)|(apply zP;omega;intros)|(apply zQ;omega;intros)|apply zR);cbv))
 refine CallK.one cB rfl cBp ?_
 cbv
 (repeat'((first|(apply zS;kernel_rfl)|(apply zD;decide +kernel)|(apply zE;decide +kernel)|(apply zF;decide +kernel)|(apply zL;decide +kernel)|(apply zM;decide +kernel)|(apply zN;intros)|(apply zO;intros)|(apply zT;omega)|(apply zU;omega)|(apply zP;omega;intros)|(apply zQ;omega;intros)|apply zR);cbv))
 exact ⟨hQ _ _ (.refl _)⟩
theorem readr_run (rs rd : Int -> Rs) (l : List Tkn) (hll : l.length ≤ 1000000) (deep : Int) (hd : -2000 ≤ deep ∧ deep ≤ 64) (hrs : ∀ i t to,rs i = .ok t to -> to ≤ l.length ∧ i < to) (hns : ∀ i e p,rs i = .bad e p -> e ≠ 0) (hnr : ∀ i e p,rd i = .bad e p -> e ≠ 0)
  (hsm : ReadsR 33 l deep rs) (hw : ReadsR 13 l (deep + 1) rd) (i : Int) (hi : inR i) (R : Rs)
  (hR : R = match rs i with
   | .ok t to => if isT l to ⟨#[45,62]⟩ = true then match rd (to + 1) with
     | .ok u to2 => .ok (.mk 7 0 ⟨#[]⟩ [] [t,u]) to2
     | .bad e p => .bad e p
    else .ok t to
   | .bad e p => .bad e p)
  (Q : D -> H -> Prop) (hQ : ∀ d h',Wk d (gotD R) -> Q d h') : wfun TT 13 [.sl none 4 (l.map tkD),.raw (.int .i64 i),.raw (.int .i64 deep)] [] Q := by
 have hi' := hi
 unfold inR at hi'
 have hl := tks_pure l
 have hrs2 : ∀ i t to,rs i = .ok t to -> to ≤ 1000000 ∧ i < to := fun i t to e => ⟨by have := (hrs i t to e).1;omega,(hrs i t to e).2⟩
 have cS := hsm i hi
 have hSp := got_pure (rs i)
 have hpl0 : pureL [.sl none 4 (l.map tkD),.raw (.int .i64 i),.raw (.int .i64 deep)] = some [.sl none 4 (l.map tkD),.raw (.int .i64 i),.raw (.int .i64 deep)] := by simp [pureL,pureD,hl]
 obtain ⟨L,hLL⟩ : ∃ L,l.map tkD = L := ⟨_,rfl⟩
 rw [hLL] at cS hpl0 ⊢
 have hLi : ∀ k,idbL k L = true := fun k => by rw [← hLL];exact tks_idb l k
 cases h1 : rs i with
 | bad e p =>
  have he := hns _ _ _ h1
  rw [h1] at hR cS hSp
  rw [hR] at hQ
  have cS := (show CP (TT ()) 33 [.sl none 4 L,.raw (.int .i64 i),.raw (.int .i64 deep)] (· = .agg [.raw (.int .i64 0),.raw (.int .i64 0),.raw (.string ⟨#[]⟩),.sl none 1 [],.sl none 5 [],.raw (.int .i64 0),.raw (.int .i64 e),.raw (.int .i64 p)]) from cS)
  cbv
  (repeat'((first|(apply zS;kernel_rfl)|(apply zD;decide +kernel)|(apply zE;decide +kernel)|(apply zF;decide +kernel)|(apply zL;decide +kernel)|(apply zM;decide +kernel)|(apply zN;intros)|(apply zO;intros)|(apply zT;omega)|(apply zU;omega)|(apply zP;omega;intros)|(apply zQ;omega;intros)|apply zR);cbv))
  refine CallK.one cS hpl0 hSp ?_
  cbv
  (repeat'((first|(apply zS;kernel_rfl)|(apply zD;decide +kernel)|(apply zE;decide +kernel)|(apply zF;decide +kernel)|(apply zL;decide +kernel)|(apply zM;decide +kernel)|(apply zN;intros)|(apply zO;intros)|(apply zT;omega)|(apply zU;omega)|(apply zP;omega;intros)|(apply zQ;omega;intros)|apply zR);cbv))
  exact ⟨hQ _ _ (.refl _)⟩
 | ok t to =>
 have hto := hrs2 _ _ _ h1
 have htb : -3000000 ≤ to ∧ to ≤ 1000000 := ⟨by omega,hto.1⟩
 rw [h1] at hR cS hSp
 have is1 := isr_cp l to ⟨#[45,62]⟩
 have hpl3 : pureL [.sl none 4 (l.map tkD),.raw (.int .i64 to),.raw (.string ⟨#[45,62]⟩)] = some [.sl none 4 (l.map tkD),.raw (.int .i64 to),.raw (.string ⟨#[45,62]⟩)] := by simp [pureL,pureD,hl]
 rw [hLL] at is1 hpl3
 obtain ⟨tk,tn,tnm,TL,TK,fg,ft,hTL,hTK⟩ := got_node t to
 have hpt := ty_pure t
 rw [fg] at cS hSp
 cases h2 : isT l to ⟨#[45,62]⟩ with
 | false =>
  rw [h2] at is1
  have hR : R = .ok t to := hR.trans (if_neg (by rw [h2];simp))
  rw [hR,fg] at hQ
  cbv
  (repeat'((first|(apply zS;kernel_rfl)|(apply zD;decide +kernel)|(apply zE;decide +kernel)|(apply zF;decide +kernel)|(apply zL;decide +kernel)|(apply zM;decide +kernel)|(apply zN;intros)|(apply zO;intros)|(apply zT;omega)|(apply zU;omega)|(apply zP;omega;intros)|(apply zQ;omega;intros)|apply zR);cbv))
  refine CallK.one cS hpl0 hSp ?_
  cbv
  (repeat'((first|(apply zS;kernel_rfl)|(apply zD;decide +kernel)|(apply zE;decide +kernel)|(apply zF;decide +kernel)|(apply zL;decide +kernel)|(apply zM;decide +kernel)|(apply zN;intros)|(apply zO;intros)|(apply zT;omega)|(apply zU;omega)|(apply zP;omega;intros)|(apply zQ;omega;intros)|apply zR);cbv))
  refine CallK.one is1 hpl3 rfl ?_
  cbv
  (repeat'((first|(apply zS;kernel_rfl)|(apply zD;decide +kernel)|(apply zE;decide +kernel)|(apply zF;decide +kernel)|(apply zL;decide +kernel)|(apply zM;decide +kernel)|(apply zN;intros)|(apply zO;intros)|(apply zT;omega)|(apply zU;omega)|(apply zP;omega;intros)|(apply zQ;omega;intros)|apply zR);cbv))
  exact ⟨hQ _ _ (.refl _)⟩
 | true =>
 rw [h2] at is1
 have hlt := isT_lt h2
 have hR : R = match rd (to + 1) with
     | .ok u to2 => .ok (.mk 7 0 ⟨#[]⟩ [] [t,u]) to2
     | .bad e p => .bad e p := hR.trans (if_pos h2)
 obtain ⟨to1,hto1⟩ : ∃ x,x = to + 1 := ⟨_,rfl⟩
 rw [← hto1] at hR
 have cF := hw to1 ⟨by omega,by omega⟩
 have hG := got_pure (rd to1)
 rw [hLL] at cF
 obtain ⟨dp,hdp⟩ : ∃ dp,dp = deep + 1 := ⟨_,rfl⟩
 rw [← hdp] at cF
 have hpl4 : pureL [.sl none 4 L,.raw (.int .i64 to1),.raw (.int .i64 dp)] = some [.sl none 4 L,.raw (.int .i64 to1),.raw (.int .i64 dp)] := by rw [← hLL];simp [pureL,pureD,hl]
 cases hr : rd to1 with
 | bad e p =>
  have he := hnr _ _ _ hr
  rw [hr] at hR cF hG
  rw [hR] at hQ
  have cF := (show CP (TT ()) 13 [.sl none 4 L,.raw (.int .i64 to1),.raw (.int .i64 dp)] (· = .agg [.raw (.int .i64 0),.raw (.int .i64 0),.raw (.string ⟨#[]⟩),.sl none 1 [],.sl none 5 [],.raw (.int .i64 0),.raw (.int .i64 e),.raw (.int .i64 p)]) from cF)
  cbv
  (repeat'((first|(apply zS;kernel_rfl)|(apply zD;decide +kernel)|(apply zE;decide +kernel)|(apply zF;decide +kernel)|(apply zL;decide +kernel)|(apply zM;decide +kernel)|(apply zN;intros)|(apply zO;intros)|(apply zT;omega)|(apply zU;omega)|(apply zP;omega;intros)|(apply zQ;omega;intros)|apply zR);cbv))
  refine CallK.one cS hpl0 hSp ?_
  cbv
  (repeat'((first|(apply zS;kernel_rfl)|(apply zD;decide +kernel)|(apply zE;decide +kernel)|(apply zF;decide +kernel)|(apply zL;decide +kernel)|(apply zM;decide +kernel)|(apply zN;intros)|(apply zO;intros)|(apply zT;omega)|(apply zU;omega)|(apply zP;omega;intros)|(apply zQ;omega;intros)|apply zR);cbv))
  refine CallK.one is1 hpl3 rfl ?_
  cbv
  (repeat'((first|(apply zS;kernel_rfl)|(apply zD;decide +kernel)|(apply zE;decide +kernel)|(apply zF;decide +kernel)|(apply zL;decide +kernel)|(apply zM;decide +kernel)|(apply zN;intros)|(apply zO;intros)|(apply zT;omega)|(apply zU;omega)|(apply zP;omega;intros)|(apply zQ;omega;intros)|apply zR);cbv))
  rename_i r hr r' hr'
  obtain rfl : r = to1 := by omega
  obtain rfl : r' = dp := by omega
  refine CallK.one cF hpl4 hG ?_
  cbv
  (repeat'((first|(apply zS;kernel_rfl)|(apply zD;decide +kernel)|(apply zE;decide +kernel)|(apply zF;decide +kernel)|(apply zL;decide +kernel)|(apply zM;decide +kernel)|(apply zN;intros)|(apply zO;intros)|(apply zT;omega)|(apply zU;omega)|(apply zP;omega;intros)|(apply zQ;omega;intros)|apply zR);cbv))
  exact ⟨hQ _ _ (.refl _)⟩
 | ok u to2 =>
  rw [hr] at hR cF hG
  obtain ⟨uk,un,unm,UL,UK,gg,gt,hUL,hUK⟩ := got_node u to2
  have hpu := ty_pure u
  have cU := rfun_cp t u
  have hpf := ty_pure (.mk 7 0 ⟨#[]⟩ [] [t,u])
  obtain ⟨vk,vn,vnm,VL,VK,kg,kt,hVL,hVK⟩ := got_node (.mk 7 0 ⟨#[]⟩ [] [t,u]) to2
  rw [hR,kg] at hQ
  rw [kt] at hpf cU
  rw [gg] at cF hG
  rw [ft,gt] at cU
  rw [ft] at hpt
  rw [gt] at hpu
  cbv
  (repeat'((first|(apply zS;kernel_rfl)|(apply zD;decide +kernel)|(apply zE;decide +kernel)|(apply zF;decide +kernel)|(apply zL;decide +kernel)|(apply zM;decide +kernel)|(apply zN;intros)|(apply zO;intros)|(apply zT;omega)|(apply zU;omega)|(apply zP;omega;intros)|(apply zQ;omega;intros)|apply zR);cbv))
  refine CallK.one cS hpl0 hSp ?_
  cbv
  (repeat'((first|(apply zS;kernel_rfl)|(apply zD;decide +kernel)|(apply zE;decide +kernel)|(apply zF;decide +kernel)|(apply zL;decide +kernel)|(apply zM;decide +kernel)|(apply zN;intros)|(apply zO;intros)|(apply zT;omega)|(apply zU;omega)|(apply zP;omega;intros)|(apply zQ;omega;intros)|apply zR);cbv))
  refine CallK.one is1 hpl3 rfl ?_
  cbv
  (repeat'((first|(apply zS;kernel_rfl)|(apply zD;decide +kernel)|(apply zE;decide +kernel)|(apply zF;decide +kernel)|(apply zL;decide +kernel)|(apply zM;decide +kernel)|(apply zN;intros)|(apply zO;intros)|(apply zT;omega)|(apply zU;omega)|(apply zP;omega;intros)|(apply zQ;omega;intros)|apply zR);cbv))
  rename_i r hr r' hr'
  obtain rfl : r = to1 := by omega
  obtain rfl : r' = dp := by omega
  refine CallK.one cF hpl4 hG ?_
  cbv
  (repeat'((first|(apply zS;kernel_rfl)|(apply zD;decide +kernel)|(apply zE;decide +kernel)|(apply zF;decide +kernel)|(apply zL;decide +kernel)|(apply zM;decide +kernel)|(apply zN;intros)|(apply zO;intros)|(apply zT;omega)|(apply zU;omega)|(apply zP;omega;intros)|(apply zQ;omega;intros)|apply zR);cbv))
  refine .one cU (cons_pure hpt (cons_pure hpu rfl)) hpf ?_
  cbv
  (repeat'((first|(apply zS;kernel_rfl)|(apply zD;decide +kernel)|(apply zE;decide +kernel)|(apply zF;decide +kernel)|(apply zL;decide +kernel)|(apply zM;decide +kernel)|(apply zN;intros)|(apply zO;intros)|(apply zT;omega)|(apply zU;omega)|(apply zP;omega;intros)|(apply zQ;omega;intros)|apply zR);cbv))
  exact ⟨hQ _ _ (.refl _)⟩
structure RecOk (recT : List ByteArray -> List Ty5 -> Ty5) (N : Nat) : Prop where
 shape : ∀ (ls : List ByteArray) (ks : List Ty5),ls.length = ks.length -> (∀ s ∈ ls,fineB s = true ∧ s.size ≤ maxLen) -> ls.Nodup -> ∃ L K,recT ls ks = .mk 8 0 ⟨#[]⟩ L K ∧ L.Perm ls ∧ K.length = L.length ∧ ∀ s u,s ∉ ls -> fineB s = true -> recT (L ++ [s]) (K ++ [u]) = recT (ls ++ [s]) (ks ++ [u])
 calls : ∀ (ls : List ByteArray) (ks : List Ty5),ls.length = ks.length -> ls.length ≤ N -> (∀ s ∈ ls,fineB s = true ∧ s.size ≤ maxLen) -> ls.Nodup -> CP (TT ()) 81 [.sl none 1 (ls.map strD),.sl none 5 (tysD ks)] (· = .tup [tyD (recT ls ks),.raw (.bool true)])
 start : recT [] [] = .mk 8 0 ⟨#[]⟩ [] []
theorem placeq_mem {L : List ByteArray} {s : ByteArray} (h : s ∈ L) : 0 ≤ placeI L s := by
 unfold placeI
 cases hf : L.findIdx? (fun x => x.toList == s.toList) with
 | none =>
  rw [List.findIdx?_eq_none_iff] at hf
  have := hf _ h
  simp at this
 | some k =>
  simp only
  omega
theorem placeq_out {L : List ByteArray} {s : ByteArray} (h : s ∉ L) : placeI L s < 0 := by
 unfold placeI
 cases hf : L.findIdx? (fun x => x.toList == s.toList) with
 | none => decide
 | some k =>
  rw [List.findIdx?_eq_some_iff_getElem] at hf
  obtain ⟨hk,he,_⟩ := hf
  have e : L[k] = s := eqS_iff.1 he
  exact absurd (e ▸ List.getElem_mem hk) h
structure FJ (recT : List ByteArray -> List Ty5 -> Ty5) (rd : Int -> Rs) (l : List Tkn) (R : Rs) (i j : Int) (L : List ByteArray) (K : List Ty5) (ls : List ByteArray) (ks : List Ty5) (f : Nat) : Prop where
 hj : inR j
 hR : labelS rd l (fieldsS recT rd l f) j ls ks = R
 hi : i = ((ls.length : Nat) : Int)
 hf : ls.length + f = l.length
 hlen : ls.length = ks.length
 hT : recT ls ks = .mk 8 0 ⟨#[]⟩ L K
 hpos : ls = [] ∨ ((ls.length : Nat) : Int) ≤ j
 hfine : ∀ s ∈ ls,fineB s = true ∧ s.size ≤ maxLen
 hnd : ls.Nodup
theorem fieldsr_run (recT : List ByteArray -> List Ty5 -> Ty5) (rd : Int -> Rs) (l : List Tkn) (hll : l.length ≤ 1000000) (hs : ∀ j,(tokT l j).s.size ≤ maxLen) (hok : RecOk recT (l.length + 1)) (deep : Int) (hd : -2000 ≤ deep ∧ deep ≤ 64) (hrd : ∀ i t to,rd i = .ok t to -> to ≤ l.length ∧ i < to) (hne : ∀ i e p,rd i = .bad e p -> e ≠ 0)
  (hw : ReadsR 13 l (deep + 1) rd) (i0 : Int) (hi0 : inR i0) (R : Rs) (hR0 : fieldsS recT rd l (l.length + 1) i0 [] [] = R)
  (Q : D -> H -> Prop) (hQ : ∀ d h',Wk d (gotD R) -> Q d h') : wfun TT 51 [.sl none 4 (l.map tkD),.raw (.int .i64 i0),.raw (.int .i64 deep)] [] Q := by
 have hi' := hi0
 unfold inR at hi'
 have hl := tks_pure l
 have hrd2 : ∀ i t to,rd i = .ok t to -> to ≤ 1000000 ∧ i < to := fun i t to e => ⟨by have := (hrd i t to e).1;omega,(hrd i t to e).2⟩
 have is0 := isr_cp l i0 ⟨#[125]⟩
 have hpl3 : ∀ (j : Int) (s : ByteArray),pureL [.sl none 4 (l.map tkD),.raw (.int .i64 j),.raw (.string s)] = some [.sl none 4 (l.map tkD),.raw (.int .i64 j),.raw (.string s)] := fun j s => by simp [pureL,pureD,hl]
 obtain ⟨L,hLL⟩ : ∃ L,l.map tkD = L := ⟨_,rfl⟩
 have hLn : L.length = l.length := by rw [← hLL];simp
 rw [hLL] at is0 hpl3 ⊢
 have hLi : ∀ k,idbL k L = true := fun k => by rw [← hLL];exact tks_idb l k
 cases h0 : isT l i0 ⟨#[125]⟩ with
 | true =>
  rw [h0] at is0
  have hR : R = .ok (.mk 8 0 ⟨#[]⟩ [] []) (i0 + 1) := by
   rw [← hR0]
   simp only [fieldsS,h0,if_true,hok.start]
  rw [hR] at hQ
  obtain ⟨i1,hi1⟩ : ∃ x,x = i0 + 1 := ⟨_,rfl⟩
  rw [← hi1] at hQ
  cbv
  (repeat'((first|(apply zS;kernel_rfl)|(apply zD;decide +kernel)|(apply zE;decide +kernel)|(apply zF;decide +kernel)|(apply zL;decide +kernel)|(apply zM;decide +kernel)|(apply zN;intros)|(apply zO;intros)|(apply zT;omega)|(apply zU;omega)|(apply zP;omega;intros)|(apply zQ;omega;intros)|apply zR);cbv))
  refine CallK.one is0 (hpl3 _ _) rfl ?_
  cbv
  (repeat'((first|(apply zS;kernel_rfl)|(apply zD;decide +kernel)|(apply zE;decide +kernel)|(apply zF;decide +kernel)|(apply zL;decide +kernel)|(apply zM;decide +kernel)|(apply zN;intros)|(apply zO;intros)|(apply zT;omega)|(apply zU;omega)|(apply zP;omega;intros)|(apply zQ;omega;intros)|apply zR);cbv))
  rename_i r hr
  obtain rfl : r = i1 := by omega
  exact ⟨hQ _ _ (wk_got 8 r _)⟩
 | false =>
  rw [h0] at is0
  have hR : labelS rd l (fieldsS recT rd l l.length) i0 [] [] = R := by
   rw [← hR0]
   simp only [fieldsS,h0,Bool.false_eq_true,if_false,ne_eq,not_true_eq_false,false_and,if_true]
  cbv
  (repeat'((first|(apply zS;kernel_rfl)|(apply zD;decide +kernel)|(apply zE;decide +kernel)|(apply zF;decide +kernel)|(apply zL;decide +kernel)|(apply zM;decide +kernel)|(apply zN;intros)|(apply zO;intros)|(apply zT;omega)|(apply zU;omega)|(apply zP;omega;intros)|(apply zQ;omega;intros)|apply zR);cbv))
  refine CallK.one is0 (hpl3 _ _) rfl ?_
  cbv
  (repeat'((first|(apply zS;kernel_rfl)|(apply zD;decide +kernel)|(apply zE;decide +kernel)|(apply zF;decide +kernel)|(apply zL;decide +kernel)|(apply zM;decide +kernel)|(apply zN;intros)|(apply zO;intros)|(apply zT;omega)|(apply zU;omega)|(apply zP;omega;intros)|(apply zQ;omega;intros)|apply zR);cbv))
  refine LoopK.cell 1 3 (.sl none 1 []) rfl rfl (nil_any 1) ?_
  cbv
  refine LoopK.cell 1 4 (.sl none 5 []) rfl rfl (nil_any 5) ?_
  cbv
  refine LoopK.put (X := Int × Int × List ByteArray × List Ty5) (fun x => [(8,.raw (.int .i64 x.2.1)),(9,.raw (.int .i64 x.1))]) (fun x => [(1,.box 26 [.raw (.int .i64 8),.raw (.int .i64 0),.raw (.string ⟨#[]⟩),.sl none 1 (x.2.2.1.map strD),.sl none 5 (tysD x.2.2.2)])]) (fun x => l.length + 1 - x.1.toNat)
   (fun x => ∃ ls ks f,FJ recT rd l R x.1 x.2.1 x.2.2.1 x.2.2.2 ls ks f) (0,i0,[],[]) ⟨[],[],l.length,⟨hi0,hR,rfl,by simp,rfl,hok.start,.inl rfl,fun s hs => (by cases hs),List.nodup_nil⟩⟩ rfl rfl ?_
  rintro ⟨i,j,B,K⟩ N ⟨ls,ks,f,hI⟩ hN
  simp only at hI hN ⊢
  obtain ⟨hj,hR,hi,hf,hlen,hT,hpos,hfine,hnd⟩ := hI
  unfold inR at hj
  obtain ⟨B',K',hT',hperm,hKl,hstep⟩ := hok.shape ls ks hlen hfine hnd
  rw [hT] at hT'
  obtain ⟨rfl,rfl⟩ : B = B' ∧ K = K' := by
   injection hT' with _ _ _ h1 h2
   exact ⟨h1,h2⟩
  have hBsz : ∀ u ∈ B,u.size ≤ maxLen := fun u hu => (hfine u (hperm.mem_iff.1 hu)).2
  have hBl : B.length = ls.length := hperm.length_eq
  have hi0' : 0 ≤ i := by omega
  have hin : i.toNat = ls.length := by omega
  have hle : i.toNat ≤ L.length := by omega
  have hpos : ls.length = 0 ∨ ls.length ≤ j.toNat ∧ 0 ≤ j := by
   rcases hpos with h | h
   ·exact .inl (by rw [h];rfl)
   ·exact .inr ⟨by omega,by omega⟩
  clear hi
  have hsj := hs j
  have ct := tokr_cp l j
  rw [hLL] at ct
  have hp := tk_pure (tokT l j)
  have cN := namedr_cp (tokT l j) hsj
  have cW := wrongr_cp (tokT l j)
  have cP := rplaceq_cp B (tokT l j).s hBsz
  obtain ⟨t,ht⟩ : ∃ t,t = tokT l j := ⟨_,rfl⟩
  have hk3 : (tokT l j).k = 3 -> 0 ≤ j ∧ j.toNat < l.length := fun h => tokT_k (by rw [h];decide)
  have hR2 : R = if (tokT l j).k = 3 ∧ fineB (tokT l j).s = true then
    if inB ls (tokT l j).s = true then .bad 9 (tokT l j).a
    else if isT l (j + 1) ⟨#[58]⟩ = true then match rd (j + 2) with
     | .ok u to => fieldsS recT rd l f to (ls ++ [(tokT l j).s]) (ks ++ [u])
     | .bad e p => .bad e p
    else wrongT l (j + 1)
   else .bad (misT (tokT l j)) (tokT l j).a := by
   rw [← hR]
   try rfl
  rw [← ht] at ct hp cN cW cP hk3 hsj hR2
  clear hR
  obtain ⟨k,n,s,a⟩ := t
  simp only [tkD] at ct hp cN cW
  simp only at cN cW cP hk3 hsj hR2
  obtain ⟨c,hc⟩ : ∃ c,c = misT ⟨k,n,s,a⟩ := ⟨_,rfl⟩
  rw [← hc] at cW hR2
  obtain ⟨pl,hplI⟩ : ∃ pl,pl = placeI B s := ⟨_,rfl⟩
  rw [← hplI] at cP
  have hBp := strs_pure B
  have hKp := tys_pure K
  obtain ⟨BD,hBD⟩ : ∃ BD,B.map strD = BD := ⟨_,rfl⟩
  obtain ⟨KD,hKD⟩ : ∃ KD,tysD K = KD := ⟨_,rfl⟩
  rw [hBD] at cP hBp ⊢
  rw [hKD] at hKp ⊢
  have hBDl : BD.length = ls.length := by rw [← hBD,List.length_map,hBl]
  have hKDl : KD.length = ls.length := by rw [← hKD,tysD_map,List.length_map,hKl,hBl]
  have hBi : ∀ m,idbL m BD = true := fun m => pure_idbL m _ hBp
  have hKi : ∀ m,idbL m KD = true := fun m => pure_idbL m _ hKp
  have hplJ : pureL [.sl none 4 L,.raw (.int .i64 j)] = some [.sl none 4 L,.raw (.int .i64 j)] := by rw [← hLL];simp [pureL,pureD,hl]
  have hplB : pureL [.sl none 1 BD,.raw (.string s)] = some [.sl none 1 BD,.raw (.string s)] := by simp [pureL,pureD,hBp]
  have cB := fun e p => (show CP (TT ()) 28 [.raw (.int .i64 e),.raw (.int .i64 p)] (· = .agg [.raw (.int .i64 0),.raw (.int .i64 0),.raw (.string ⟨#[]⟩),.sl none 1 [],.sl none 5 [],.raw (.int .i64 0),.raw (.int .i64 e),.raw (.int .i64 p)]) from badr_cp e p)
  have cBp : ∀ e p,pureD (.agg [.raw (.int .i64 0),.raw (.int .i64 0),.raw (.string ⟨#[]⟩),.sl none 1 [],.sl none 5 [],.raw (.int .i64 0),.raw (.int .i64 e),.raw (.int .i64 p)]) = some (.agg [.raw (.int .i64 0),.raw (.int .i64 0),.raw (.string ⟨#[]⟩),.sl none 1 [],.sl none 5 [],.raw (.int .i64 0),.raw (.int .i64 e),.raw (.int .i64 p)]) := fun e p => got_pure (.bad e p)
  have hbad : ∀ e p,R = .bad e p -> ∀ d h',Wk d (.agg [.raw (.int .i64 0),.raw (.int .i64 0),.raw (.string ⟨#[]⟩),.sl none 1 [],.sl none 5 [],.raw (.int .i64 0),.raw (.int .i64 e),.raw (.int .i64 p)]) -> Q d h' := fun e p h d h' hd => hQ d h' (by rw [h];exact hd)
  by_cases h3 : k = 3 ∧ fineB s = true
  rotate_left
  ·have hb : (decide (k = 3) && fineB s) = false := by
    cases hf : fineB s with
    | false => simp
    | true =>
     rw [hf] at h3
     simp only [and_true] at h3
     rw [decide_eq_false h3]
     try rfl
   rw [hb] at cN
   rw [if_neg h3] at hR2
   have hbad := hbad _ _ hR2
   cbv
   (repeat'((first|(apply zS;kernel_rfl)|(apply zD;decide +kernel)|(apply zE;decide +kernel)|(apply zF;decide +kernel)|(apply zL;decide +kernel)|(apply zM;decide +kernel)|(apply zN;intros)|(apply zO;intros)|(apply zT;omega)|(apply zU;omega)|(apply zP;omega;intros)|(apply zQ;omega;intros)|apply zR);cbv))
   refine CallK.one ct hplJ hp ?_
   cbv
   (repeat'((first|(apply zS;kernel_rfl)|(apply zD;decide +kernel)|(apply zE;decide +kernel)|(apply zF;decide +kernel)|(apply zL;decide +kernel)|(apply zM;decide +kernel)|(apply zN;intros)|(apply zO;intros)|(apply zT;omega)|(apply zU;omega)|(apply zP;omega;intros)|(apply zQ;omega;intros)|apply zR);cbv))
   refine .one cN (cons_pure hp rfl) rfl ?_
   cbv
   (repeat'((first|(apply zS;kernel_rfl)|(apply zD;decide +kernel)|(apply zE;decide +kernel)|(apply zF;decide +kernel)|(apply zL;decide +kernel)|(apply zM;decide +kernel)|(apply zN;intros)|(apply zO;intros)|(apply zT;omega)|(apply zU;omega)|(apply zP;omega;intros)|(apply zQ;omega;intros)|apply zR);cbv))
   refine .one cW (cons_pure hp rfl) rfl ?_
   cbv
   (repeat'((first|(apply zS;kernel_rfl)|(apply zD;decide +kernel)|(apply zE;decide +kernel)|(apply zF;decide +kernel)|(apply zL;decide +kernel)|(apply zM;decide +kernel)|(apply zN;intros)|(apply zO;intros)|(apply zT;omega)|(apply zU;omega)|(apply zP;omega;intros)|(apply zQ;omega;intros)|apply zR);cbv))
   refine CallK.one (cB _ _) rfl (cBp _ _) ?_
   cbv
   (repeat'((first|(apply zS;kernel_rfl)|(apply zD;decide +kernel)|(apply zE;decide +kernel)|(apply zF;decide +kernel)|(apply zL;decide +kernel)|(apply zM;decide +kernel)|(apply zN;intros)|(apply zO;intros)|(apply zT;omega)|(apply zU;omega)|(apply zP;omega;intros)|(apply zQ;omega;intros)|apply zR);cbv))
   exact ⟨hbad _ _ (.refl _)⟩
  have hb : (decide (k = 3) && fineB s) = true := by rw [h3.1,h3.2];rfl
  rw [hb] at cN
  rw [if_pos h3] at hR2
  have hjl := hk3 h3.1
  obtain ⟨f,rfl⟩ : ∃ g,f = g + 1 := ⟨f - 1,by omega⟩
  by_cases h9 : s ∈ ls
  ·have hpl0 : 0 ≤ pl := by
    rw [hplI]
    exact placeq_mem (hperm.mem_iff.2 h9)
   rw [if_pos (inB_mem.2 h9)] at hR2
   have hbad := hbad _ _ hR2
   cbv
   (repeat'((first|(apply zS;kernel_rfl)|(apply zD;decide +kernel)|(apply zE;decide +kernel)|(apply zF;decide +kernel)|(apply zL;decide +kernel)|(apply zM;decide +kernel)|(apply zN;intros)|(apply zO;intros)|(apply zT;omega)|(apply zU;omega)|(apply zP;omega;intros)|(apply zQ;omega;intros)|apply zR);cbv))
   refine CallK.one ct hplJ hp ?_
   cbv
   (repeat'((first|(apply zS;kernel_rfl)|(apply zD;decide +kernel)|(apply zE;decide +kernel)|(apply zF;decide +kernel)|(apply zL;decide +kernel)|(apply zM;decide +kernel)|(apply zN;intros)|(apply zO;intros)|(apply zT;omega)|(apply zU;omega)|(apply zP;omega;intros)|(apply zQ;omega;intros)|apply zR);cbv))
   refine .one cN (cons_pure hp rfl) rfl ?_
   cbv
   (repeat'((first|(apply zS;kernel_rfl)|(apply zD;decide +kernel)|(apply zE;decide +kernel)|(apply zF;decide +kernel)|(apply zL;decide +kernel)|(apply zM;decide +kernel)|(apply zN;intros)|(apply zO;intros)|(apply zT;omega)|(apply zU;omega)|(apply zP;omega;intros)|(apply zQ;omega;intros)|apply zR);cbv))
   refine .one cP hplB rfl ?_
   cbv
   (repeat'((first|(apply zS;kernel_rfl)|(apply zD;decide +kernel)|(apply zE;decide +kernel)|(apply zF;decide +kernel)|(apply zL;decide +kernel)|(apply zM;decide +kernel)|(apply zN;intros)|(apply zO;intros)|(apply zT;omega)|(apply zU;omega)|(apply zP;omega;intros)|(apply zQ;omega;intros)|apply zR);cbv))
   refine CallK.one (cB _ _) rfl (cBp _ _) ?_
   cbv
   (repeat'((first|(apply zS;kernel_rfl)|(apply zD;decide +kernel)|(apply zE;decide +kernel)|(apply zF;decide +kernel)|(apply zL;decide +kernel)|(apply zM;decide +kernel)|(apply zN;intros)|(apply zO;intros)|(apply zT;omega)|(apply zU;omega)|(apply zP;omega;intros)|(apply zQ;omega;intros)|apply zR);cbv))
   exact ⟨hbad _ _ (.refl _)⟩
  have hpl0 : pl < 0 := by
   rw [hplI]
   exact placeq_out fun h => h9 (hperm.mem_iff.1 h)
  rw [if_neg (fun h => h9 (inB_mem.1 h))] at hR2
  obtain ⟨j1,hj1⟩ : ∃ x,x = j + 1 := ⟨_,rfl⟩
  obtain ⟨j2,hj2⟩ : ∃ x,x = j + 2 := ⟨_,rfl⟩
  rw [← hj1,← hj2] at hR2
  have cW1 := wantr_cp l j1 ⟨#[58]⟩
  rw [hLL] at cW1
  unfold wantT at cW1
  cases h58 : isT l j1 ⟨#[58]⟩ with
  | false =>
   rw [if_neg (by rw [h58];simp)] at cW1
   rw [h58,if_neg (by simp)] at hR2
   simp only at cW1
   have hm := misT_ne (tokT l j1)
   have hbad := hbad _ _ hR2
   generalize misT (tokT l j1) = c1 at cW1 hm hbad
   generalize (tokT l j1).a = a1 at cW1 hbad
   cbv
   (repeat'((first|(apply zS;kernel_rfl)|(apply zD;decide +kernel)|(apply zE;decide +kernel)|(apply zF;decide +kernel)|(apply zL;decide +kernel)|(apply zM;decide +kernel)|(apply zN;intros)|(apply zO;intros)|(apply zT;omega)|(apply zU;omega)|(apply zP;omega;intros)|(apply zQ;omega;intros)|apply zR);cbv))
   refine .one ct hplJ hp ?_
   cbv
   (repeat'((first|(apply zS;kernel_rfl)|(apply zD;decide +kernel)|(apply zE;decide +kernel)|(apply zF;decide +kernel)|(apply zL;decide +kernel)|(apply zM;decide +kernel)|(apply zN;intros)|(apply zO;intros)|(apply zT;omega)|(apply zU;omega)|(apply zP;omega;intros)|(apply zQ;omega;intros)|apply zR);cbv))
   refine .one cN (cons_pure hp rfl) rfl ?_
   cbv
   (repeat'((first|(apply zS;kernel_rfl)|(apply zD;decide +kernel)|(apply zE;decide +kernel)|(apply zF;decide +kernel)|(apply zL;decide +kernel)|(apply zM;decide +kernel)|(apply zN;intros)|(apply zO;intros)|(apply zT;omega)|(apply zU;omega)|(apply zP;omega;intros)|(apply zQ;omega;intros)|apply zR);cbv))
   refine .one cP hplB rfl ?_
   cbv
   (repeat'((first|(apply zS;kernel_rfl)|(apply zD;decide +kernel)|(apply zE;decide +kernel)|(apply zF;decide +kernel)|(apply zL;decide +kernel)|(apply zM;decide +kernel)|(apply zN;intros)|(apply zO;intros)|(apply zT;omega)|(apply zU;omega)|(apply zP;omega;intros)|(apply zQ;omega;intros)|apply zR);cbv))
   rename_i r hr
   obtain rfl : r = j1 := by omega
   refine .one cW1 (hpl3 _ _) rfl ?_
   cbv
   (repeat'((first|(apply zS;kernel_rfl)|(apply zD;decide +kernel)|(apply zE;decide +kernel)|(apply zF;decide +kernel)|(apply zL;decide +kernel)|(apply zM;decide +kernel)|(apply zN;intros)|(apply zO;intros)|(apply zT;omega)|(apply zU;omega)|(apply zP;omega;intros)|(apply zQ;omega;intros)|apply zR);cbv))
   refine CallK.one (cB _ _) rfl (cBp _ _) ?_
   cbv
   (repeat'((first|(apply zS;kernel_rfl)|(apply zD;decide +kernel)|(apply zE;decide +kernel)|(apply zF;decide +kernel)|(apply zL;decide +kernel)|(apply zM;decide +kernel)|(apply zN;intros)|(apply zO;intros)|(apply zT;omega)|(apply zU;omega)|(apply zP;omega;intros)|(apply zQ;omega;intros)|apply zR);cbv))
   exact ⟨hbad _ _ (.refl _)⟩
  | true =>
  rw [if_pos h58] at cW1
  simp only at cW1
  rw [if_pos h58] at hR2
  have cF := hw j2 ⟨by omega,by omega⟩
  have hG := got_pure (rd j2)
  rw [hLL] at cF
  obtain ⟨dp,hdp⟩ : ∃ dp,dp = deep + 1 := ⟨_,rfl⟩
  rw [← hdp] at cF
  have hpl4 : pureL [.sl none 4 L,.raw (.int .i64 j2),.raw (.int .i64 dp)] = some [.sl none 4 L,.raw (.int .i64 j2),.raw (.int .i64 dp)] := by rw [← hLL];simp [pureL,pureD,hl]
  cases hr2 : rd j2 with
  | bad e p =>
   have he := hne _ _ _ hr2
   rw [hr2] at hR2 cF hG
   have hbad := hbad _ _ hR2
   have cF := (show CP (TT ()) 13 [.sl none 4 L,.raw (.int .i64 j2),.raw (.int .i64 dp)] (· = .agg [.raw (.int .i64 0),.raw (.int .i64 0),.raw (.string ⟨#[]⟩),.sl none 1 [],.sl none 5 [],.raw (.int .i64 0),.raw (.int .i64 e),.raw (.int .i64 p)]) from cF)
   cbv
   (repeat'((first|(apply zS;kernel_rfl)|(apply zD;decide +kernel)|(apply zE;decide +kernel)|(apply zF;decide +kernel)|(apply zL;decide +kernel)|(apply zM;decide +kernel)|(apply zN;intros)|(apply zO;intros)|(apply zT;omega)|(apply zU;omega)|(apply zP;omega;intros)|(apply zQ;omega;intros)|apply zR);cbv))
   refine .one ct hplJ hp ?_
   cbv
   (repeat'((first|(apply zS;kernel_rfl)|(apply zD;decide +kernel)|(apply zE;decide +kernel)|(apply zF;decide +kernel)|(apply zL;decide +kernel)|(apply zM;decide +kernel)|(apply zN;intros)|(apply zO;intros)|(apply zT;omega)|(apply zU;omega)|(apply zP;omega;intros)|(apply zQ;omega;intros)|apply zR);cbv))
   refine .one cN (cons_pure hp rfl) rfl ?_
   cbv
   (repeat'((first|(apply zS;kernel_rfl)|(apply zD;decide +kernel)|(apply zE;decide +kernel)|(apply zF;decide +kernel)|(apply zL;decide +kernel)|(apply zM;decide +kernel)|(apply zN;intros)|(apply zO;intros)|(apply zT;omega)|(apply zU;omega)|(apply zP;omega;intros)|(apply zQ;omega;intros)|apply zR);cbv))
   refine .one cP hplB rfl ?_
   cbv
   (repeat'((first|(apply zS;kernel_rfl)|(apply zD;decide +kernel)|(apply zE;decide +kernel)|(apply zF;decide +kernel)|(apply zL;decide +kernel)|(apply zM;decide +kernel)|(apply zN;intros)|(apply zO;intros)|(apply zT;omega)|(apply zU;omega)|(apply zP;omega;intros)|(apply zQ;omega;intros)|apply zR);cbv))
   rename_i r hr
   obtain rfl : r = j1 := by omega
   refine .one cW1 (hpl3 _ _) rfl ?_
   cbv
   (repeat'((first|(apply zS;kernel_rfl)|(apply zD;decide +kernel)|(apply zE;decide +kernel)|(apply zF;decide +kernel)|(apply zL;decide +kernel)|(apply zM;decide +kernel)|(apply zN;intros)|(apply zO;intros)|(apply zT;omega)|(apply zU;omega)|(apply zP;omega;intros)|(apply zQ;omega;intros)|apply zR);cbv))
   rename_i r hr r' hr'
   obtain rfl : r = j2 := by omega
   obtain rfl : r' = dp := by omega
   refine CallK.one cF hpl4 hG ?_
   cbv
   (repeat'((first|(apply zS;kernel_rfl)|(apply zD;decide +kernel)|(apply zE;decide +kernel)|(apply zF;decide +kernel)|(apply zL;decide +kernel)|(apply zM;decide +kernel)|(apply zN;intros)|(apply zO;intros)|(apply zT;omega)|(apply zU;omega)|(apply zP;omega;intros)|(apply zQ;omega;intros)|apply zR);cbv))
   exact ⟨hbad _ _ (.refl _)⟩
  | ok u to =>
   have hto := hrd2 _ _ _ hr2
   have htb : -3000000 ≤ to ∧ to ≤ 1000000 := ⟨by omega,hto.1⟩
   rw [hr2] at hR2 cF hG
   simp only at hR2
   obtain ⟨uk,un,unm,UL,UK,ug,ut,hUL,hUK⟩ := got_node u to
   rw [ug] at cF hG
   obtain ⟨ls2,hls2⟩ : ∃ x,x = ls ++ [s] := ⟨_,rfl⟩
   obtain ⟨ks2,hks2⟩ : ∃ x,x = ks ++ [u] := ⟨_,rfl⟩
   have hl2 : ls2.length = ls.length + 1 := by rw [hls2];simp
   have hk2 : ks2.length = ks.length + 1 := by rw [hks2];simp
   have hf2 : ∀ x ∈ ls2,fineB x = true ∧ x.size ≤ maxLen := fun x hx => by
    rw [hls2] at hx
    rcases List.mem_append.1 hx with hx | hx
    ·exact hfine x hx
    ·rw [List.mem_singleton.1 hx]
     exact ⟨h3.2,hsj⟩
   have hn2 : ls2.Nodup := by
    rw [hls2]
    exact List.nodup_append.2 ⟨hnd,by simp,fun a ha b hb e => by
     rw [List.mem_singleton.1 hb] at e
     exact h9 (e ▸ ha)⟩
   obtain ⟨B2,K2,hT2,hperm2,hKl2,hstep2⟩ := hok.shape ls2 ks2 (by omega) hf2 hn2
   have hRec : recT (B ++ [s]) (K ++ [u]) = .mk 8 0 ⟨#[]⟩ B2 K2 := by rw [hstep s u h9 h3.2,← hls2,← hks2,hT2]
   have cR := hok.calls (B ++ [s]) (K ++ [u]) (by rw [List.length_append,List.length_append,hKl];rfl) (by rw [List.length_append,hBl];simp only [List.length_cons,List.length_nil];omega) (fun x hx => by
    rcases List.mem_append.1 hx with hx | hx
    ·exact hfine x (hperm.mem_iff.1 hx)
    ·rw [List.mem_singleton.1 hx]
     exact ⟨h3.2,hsj⟩) (List.nodup_append.2 ⟨hperm.nodup_iff.2 hnd,by simp,fun a ha b hb e => by
     rw [List.mem_singleton.1 hb] at e
     exact h9 (e ▸ hperm.mem_iff.1 ha)⟩)
   rw [hRec,List.map_append,tysD_map,List.map_append,← tysD_map,hBD,hKD] at cR
   simp only [List.map_cons,List.map_nil,ut] at cR
   have hBp2 := strs_pure B2
   have hKp2 := tys_pure K2
   have cR := (show CP (TT ()) 81 [.sl none 1 (BD ++ [.raw (.string s)]),.sl none 5 (KD ++ [.agg [.raw (.int .i64 uk),.raw (.int .i64 un),.raw (.string unm),.sl none 1 UL,.sl none 5 UK]])] (· = .tup [.agg [.raw (.int .i64 8),.raw (.int .i64 0),.raw (.string ⟨#[]⟩),.sl none 1 (B2.map strD),.sl none 5 (tysD K2)],.raw (.bool true)]) from cR)
   have hpu := ty_pure u
   rw [ut] at hpu
   have hpA : pureL (BD ++ [.raw (.string s)]) = some (BD ++ [.raw (.string s)]) := by
    have e1 := strs_pure (B ++ [s])
    rw [List.map_append,hBD] at e1
    exact e1
   have hpB : pureL (KD ++ [.agg [.raw (.int .i64 uk),.raw (.int .i64 un),.raw (.string unm),.sl none 1 UL,.sl none 5 UK]]) = some (KD ++ [.agg [.raw (.int .i64 uk),.raw (.int .i64 un),.raw (.string unm),.sl none 1 UL,.sl none 5 UK]]) := by
    have e2 := tys_pure (K ++ [u])
    rw [tysD_map,List.map_append,← tysD_map,hKD] at e2
    simp only [List.map_cons,List.map_nil,ut] at e2
    exact e2
   have hpR : pureL [.sl none 1 (BD ++ [.raw (.string s)]),.sl none 5 (KD ++ [.agg [.raw (.int .i64 uk),.raw (.int .i64 un),.raw (.string unm),.sl none 1 UL,.sl none 5 UK]])] = some [.sl none 1 (BD ++ [.raw (.string s)]),.sl none 5 (KD ++ [.agg [.raw (.int .i64 uk),.raw (.int .i64 un),.raw (.string unm),.sl none 1 UL,.sl none 5 UK]])] := by
    simp only [pureL,pureD,hpA,hpB,Option.map_some]
   have hpR2 : pureD (.tup [.agg [.raw (.int .i64 8),.raw (.int .i64 0),.raw (.string ⟨#[]⟩),.sl none 1 (B2.map strD),.sl none 5 (tysD K2)],.raw (.bool true)]) = some (.tup [.agg [.raw (.int .i64 8),.raw (.int .i64 0),.raw (.string ⟨#[]⟩),.sl none 1 (B2.map strD),.sl none 5 (tysD K2)],.raw (.bool true)]) := by simp [pureL,pureD,hBp2,hKp2]
   rw [← hls2,← hks2] at hR2
   have is2 := isr_cp l to ⟨#[125]⟩
   rw [hLL] at is2
   obtain ⟨to1,hto1⟩ : ∃ x,x = to + 1 := ⟨_,rfl⟩
   have hne2 : ls2 ≠ [] := fun e => by rw [e] at hl2;simp at hl2
   have hfinQ : isT l to ⟨#[125]⟩ = true -> ∀ d h',Wk d (.agg [.raw (.int .i64 8),.raw (.int .i64 0),.raw (.string ⟨#[]⟩),.sl none 1 (B2.map strD),.sl none 5 (tysD K2),.raw (.int .i64 to1),.raw (.int .i64 0),.raw (.int .i64 0)]) -> Q d h' := fun h25 d h' hd => hQ d h' (by
    rw [hR2]
    simp only [fieldsS,h25,if_true,hT2,← hto1]
    exact hd)
   have hR3 : isT l to ⟨#[125]⟩ = false -> R = if isT l to ⟨#[44]⟩ = false then wrongT l to else labelS rd l (fieldsS recT rd l f) to1 ls2 ks2 := fun h25 => by
    rw [hR2]
    simp only [fieldsS,h25,Bool.false_eq_true,if_false,ne_eq,hne2,not_false_eq_true,true_and,hto1]
   clear hR2
   have cW2 := wantr_cp l to ⟨#[44]⟩
   rw [hLL] at cW2
   unfold wantT at cW2
   cases h25 : isT l to ⟨#[125]⟩ with
   | true =>
    rw [h25] at is2
    have hfinQ := hfinQ h25
    clear hR3 cW2
    cbv
    (repeat'((first|(apply zS;kernel_rfl)|(apply zD;decide +kernel)|(apply zE;decide +kernel)|(apply zF;decide +kernel)|(apply zL;decide +kernel)|(apply zM;decide +kernel)|(apply zN;intros)|(apply zO;intros)|(apply zT;omega)|(apply zU;omega)|(apply zP;omega;intros)|(apply zQ;omega;intros)|apply zR);cbv))
    refine .one ct hplJ hp ?_
    cbv
    (repeat'((first|(apply zS;kernel_rfl)|(apply zD;decide +kernel)|(apply zE;decide +kernel)|(apply zF;decide +kernel)|(apply zL;decide +kernel)|(apply zM;decide +kernel)|(apply zN;intros)|(apply zO;intros)|(apply zT;omega)|(apply zU;omega)|(apply zP;omega;intros)|(apply zQ;omega;intros)|apply zR);cbv))
    refine .one cN (cons_pure hp rfl) rfl ?_
    cbv
    (repeat'((first|(apply zS;kernel_rfl)|(apply zD;decide +kernel)|(apply zE;decide +kernel)|(apply zF;decide +kernel)|(apply zL;decide +kernel)|(apply zM;decide +kernel)|(apply zN;intros)|(apply zO;intros)|(apply zT;omega)|(apply zU;omega)|(apply zP;omega;intros)|(apply zQ;omega;intros)|apply zR);cbv))
    refine .one cP hplB rfl ?_
    cbv
    (repeat'((first|(apply zS;kernel_rfl)|(apply zD;decide +kernel)|(apply zE;decide +kernel)|(apply zF;decide +kernel)|(apply zL;decide +kernel)|(apply zM;decide +kernel)|(apply zN;intros)|(apply zO;intros)|(apply zT;omega)|(apply zU;omega)|(apply zP;omega;intros)|(apply zQ;omega;intros)|apply zR);cbv))
    rename_i r hr
    obtain rfl : r = j1 := by omega
    refine .one cW1 (hpl3 _ _) rfl ?_
    cbv
    (repeat'((first|(apply zS;kernel_rfl)|(apply zD;decide +kernel)|(apply zE;decide +kernel)|(apply zF;decide +kernel)|(apply zL;decide +kernel)|(apply zM;decide +kernel)|(apply zN;intros)|(apply zO;intros)|(apply zT;omega)|(apply zU;omega)|(apply zP;omega;intros)|(apply zQ;omega;intros)|apply zR);cbv))
    rename_i r hr r' hr'
    obtain rfl : r = j2 := by omega
    obtain rfl : r' = dp := by omega
    refine CallK.one cF hpl4 hG ?_
    cbv
    (repeat'((first|(apply zS;kernel_rfl)|(apply zD;decide +kernel)|(apply zE;decide +kernel)|(apply zF;decide +kernel)|(apply zL;decide +kernel)|(apply zM;decide +kernel)|(apply zN;intros)|(apply zO;intros)|(apply zT;omega)|(apply zU;omega)|(apply zP;omega;intros)|(apply zQ;omega;intros)|apply zR);cbv))
    refine DrawK.tail 3 (by kernel_rfl) (by decide +kernel) ?_
    cbv
    (repeat'((first|(apply zS;kernel_rfl)|(apply zD;decide +kernel)|(apply zE;decide +kernel)|(apply zF;decide +kernel)|(apply zL;decide +kernel)|(apply zM;decide +kernel)|(apply zN;intros)|(apply zO;intros)|(apply zT;omega)|(apply zU;omega)|(apply zP;omega;intros)|(apply zQ;omega;intros)|apply zR);cbv))
    refine HAppK.sl el_strs el_strs (by simp;omega) ?_
    intro A1 hA1
    have hA1 : A1 = BD := by simpa using hA1
    rw [hA1]
    clear hA1
    cbv
    (repeat'((first|(apply zS;kernel_rfl)|(apply zD;decide +kernel)|(apply zE;decide +kernel)|(apply zF;decide +kernel)|(apply zL;decide +kernel)|(apply zM;decide +kernel)|(apply zN;intros)|(apply zO;intros)|(apply zT;omega)|(apply zU;omega)|(apply zP;omega;intros)|(apply zQ;omega;intros)|apply zR);cbv))
    refine HAppK.sl el_strs el_strs (by simp;omega) ?_
    intro A2 hA2
    rw [← hA2] at cR hpR hpA
    clear hA2
    cbv
    (repeat'((first|(apply zS;kernel_rfl)|(apply zD;decide +kernel)|(apply zE;decide +kernel)|(apply zF;decide +kernel)|(apply zL;decide +kernel)|(apply zM;decide +kernel)|(apply zN;intros)|(apply zO;intros)|(apply zT;omega)|(apply zU;omega)|(apply zP;omega;intros)|(apply zQ;omega;intros)|apply zR);cbv))
    refine HAppK.sl el_tys el_tys (by simp;omega) ?_
    intro A3 hA3
    have hA3 : A3 = KD := by simpa using hA3
    rw [hA3]
    clear hA3
    cbv
    (repeat'((first|(apply zS;kernel_rfl)|(apply zD;decide +kernel)|(apply zE;decide +kernel)|(apply zF;decide +kernel)|(apply zL;decide +kernel)|(apply zM;decide +kernel)|(apply zN;intros)|(apply zO;intros)|(apply zT;omega)|(apply zU;omega)|(apply zP;omega;intros)|(apply zQ;omega;intros)|apply zR);cbv))
    refine HAppK.sl el_tys el_tys (by simp;omega) ?_
    intro A4 hA4
    rw [← hA4] at cR hpR hpB
    clear hA4
    obtain ⟨BD2,hBD2⟩ : ∃ x,B2.map strD = x := ⟨_,rfl⟩
    obtain ⟨KD2,hKD2⟩ : ∃ x,tysD K2 = x := ⟨_,rfl⟩
    rw [hBD2] at cR hpR2 hBp2 hfinQ
    rw [hKD2] at cR hpR2 hKp2 hfinQ
    cbv
    (repeat'((first|(apply zS;kernel_rfl)|(apply zD;decide +kernel)|(apply zE;decide +kernel)|(apply zF;decide +kernel)|(apply zL;decide +kernel)|(apply zM;decide +kernel)|(apply zN;intros)|(apply zO;intros)|(apply zT;omega)|(apply zU;omega)|(apply zP;omega;intros)|(apply zQ;omega;intros)|apply zR);cbv))
    refine .one cR hpR hpR2 ?_
    cbv
    (repeat'((first|(apply zS;kernel_rfl)|(apply zD;decide +kernel)|(apply zE;decide +kernel)|(apply zF;decide +kernel)|(apply zL;decide +kernel)|(apply zM;decide +kernel)|(apply zN;intros)|(apply zO;intros)|(apply zT;omega)|(apply zU;omega)|(apply zP;omega;intros)|(apply zQ;omega;intros)|apply zR);cbv))
    refine TailK.late (by decide +kernel) rfl rfl rfl rfl rfl rfl rfl rfl rfl rfl rfl (by decide) (by simp) (by simp) rfl rfl rfl rfl rfl rfl rfl ?_
    cbv
    (repeat'((first|(apply zS;kernel_rfl)|(apply zD;decide +kernel)|(apply zE;decide +kernel)|(apply zF;decide +kernel)|(apply zL;decide +kernel)|(apply zM;decide +kernel)|(apply zN;intros)|(apply zO;intros)|(apply zT;omega)|(apply zU;omega)|(apply zP;omega;intros)|(apply zQ;omega;intros)|apply zR);cbv))
    refine CallK.one is2 (hpl3 _ _) rfl ?_
    cbv
    (repeat'((first|(apply zS;kernel_rfl)|(apply zD;decide +kernel)|(apply zE;decide +kernel)|(apply zF;decide +kernel)|(apply zL;decide +kernel)|(apply zM;decide +kernel)|(apply zN;intros)|(apply zO;intros)|(apply zT;omega)|(apply zU;omega)|(apply zP;omega;intros)|(apply zQ;omega;intros)|apply zR);cbv))
    rename_i r hr
    obtain rfl : r = to1 := by omega
    exact ⟨hfinQ _ _ (.refl _)⟩
   | false =>
    rw [h25] at is2
    have hR3 := hR3 h25
    cases h44 : isT l to ⟨#[44]⟩ with
    | false =>
     rw [if_neg (by rw [h44];simp)] at cW2
     rw [h44,if_pos rfl] at hR3
     have hm := misT_ne (tokT l to)
     have hbad := hbad _ _ hR3
     generalize misT (tokT l to) = c1 at cW2 hm hbad
     generalize (tokT l to).a = a1 at cW2 hbad
     cbv
     (repeat'((first|(apply zS;kernel_rfl)|(apply zD;decide +kernel)|(apply zE;decide +kernel)|(apply zF;decide +kernel)|(apply zL;decide +kernel)|(apply zM;decide +kernel)|(apply zN;intros)|(apply zO;intros)|(apply zT;omega)|(apply zU;omega)|(apply zP;omega;intros)|(apply zQ;omega;intros)|apply zR);cbv))
     refine .one ct hplJ hp ?_
     cbv
     (repeat'((first|(apply zS;kernel_rfl)|(apply zD;decide +kernel)|(apply zE;decide +kernel)|(apply zF;decide +kernel)|(apply zL;decide +kernel)|(apply zM;decide +kernel)|(apply zN;intros)|(apply zO;intros)|(apply zT;omega)|(apply zU;omega)|(apply zP;omega;intros)|(apply zQ;omega;intros)|apply zR);cbv))
     refine .one cN (cons_pure hp rfl) rfl ?_
     cbv
     (repeat'((first|(apply zS;kernel_rfl)|(apply zD;decide +kernel)|(apply zE;decide +kernel)|(apply zF;decide +kernel)|(apply zL;decide +kernel)|(apply zM;decide +kernel)|(apply zN;intros)|(apply zO;intros)|(apply zT;omega)|(apply zU;omega)|(apply zP;omega;intros)|(apply zQ;omega;intros)|apply zR);cbv))
     refine .one cP hplB rfl ?_
     cbv
     (repeat'((first|(apply zS;kernel_rfl)|(apply zD;decide +kernel)|(apply zE;decide +kernel)|(apply zF;decide +kernel)|(apply zL;decide +kernel)|(apply zM;decide +kernel)|(apply zN;intros)|(apply zO;intros)|(apply zT;omega)|(apply zU;omega)|(apply zP;omega;intros)|(apply zQ;omega;intros)|apply zR);cbv))
     rename_i r hr
     obtain rfl : r = j1 := by omega
     refine .one cW1 (hpl3 _ _) rfl ?_
     cbv
     (repeat'((first|(apply zS;kernel_rfl)|(apply zD;decide +kernel)|(apply zE;decide +kernel)|(apply zF;decide +kernel)|(apply zL;decide +kernel)|(apply zM;decide +kernel)|(apply zN;intros)|(apply zO;intros)|(apply zT;omega)|(apply zU;omega)|(apply zP;omega;intros)|(apply zQ;omega;intros)|apply zR);cbv))
     rename_i r hr r' hr'
     obtain rfl : r = j2 := by omega
     obtain rfl : r' = dp := by omega
     refine CallK.one cF hpl4 hG ?_
     cbv
     (repeat'((first|(apply zS;kernel_rfl)|(apply zD;decide +kernel)|(apply zE;decide +kernel)|(apply zF;decide +kernel)|(apply zL;decide +kernel)|(apply zM;decide +kernel)|(apply zN;intros)|(apply zO;intros)|(apply zT;omega)|(apply zU;omega)|(apply zP;omega;intros)|(apply zQ;omega;intros)|apply zR);cbv))
     refine DrawK.tail 3 (by kernel_rfl) (by decide +kernel) ?_
     cbv
     (repeat'((first|(apply zS;kernel_rfl)|(apply zD;decide +kernel)|(apply zE;decide +kernel)|(apply zF;decide +kernel)|(apply zL;decide +kernel)|(apply zM;decide +kernel)|(apply zN;intros)|(apply zO;intros)|(apply zT;omega)|(apply zU;omega)|(apply zP;omega;intros)|(apply zQ;omega;intros)|apply zR);cbv))
     refine HAppK.sl el_strs el_strs (by simp;omega) ?_
     intro A1 hA1
     have hA1 : A1 = BD := by simpa using hA1
     rw [hA1]
     clear hA1
     cbv
     (repeat'((first|(apply zS;kernel_rfl)|(apply zD;decide +kernel)|(apply zE;decide +kernel)|(apply zF;decide +kernel)|(apply zL;decide +kernel)|(apply zM;decide +kernel)|(apply zN;intros)|(apply zO;intros)|(apply zT;omega)|(apply zU;omega)|(apply zP;omega;intros)|(apply zQ;omega;intros)|apply zR);cbv))
     refine HAppK.sl el_strs el_strs (by simp;omega) ?_
     intro A2 hA2
     rw [← hA2] at cR hpR hpA
     clear hA2
     cbv
     (repeat'((first|(apply zS;kernel_rfl)|(apply zD;decide +kernel)|(apply zE;decide +kernel)|(apply zF;decide +kernel)|(apply zL;decide +kernel)|(apply zM;decide +kernel)|(apply zN;intros)|(apply zO;intros)|(apply zT;omega)|(apply zU;omega)|(apply zP;omega;intros)|(apply zQ;omega;intros)|apply zR);cbv))
     refine HAppK.sl el_tys el_tys (by simp;omega) ?_
     intro A3 hA3
     have hA3 : A3 = KD := by simpa using hA3
     rw [hA3]
     clear hA3
     cbv
     (repeat'((first|(apply zS;kernel_rfl)|(apply zD;decide +kernel)|(apply zE;decide +kernel)|(apply zF;decide +kernel)|(apply zL;decide +kernel)|(apply zM;decide +kernel)|(apply zN;intros)|(apply zO;intros)|(apply zT;omega)|(apply zU;omega)|(apply zP;omega;intros)|(apply zQ;omega;intros)|apply zR);cbv))
     refine HAppK.sl el_tys el_tys (by simp;omega) ?_
     intro A4 hA4
     rw [← hA4] at cR hpR hpB
     clear hA4
     obtain ⟨BD2,hBD2⟩ : ∃ x,B2.map strD = x := ⟨_,rfl⟩
     obtain ⟨KD2,hKD2⟩ : ∃ x,tysD K2 = x := ⟨_,rfl⟩
     rw [hBD2] at cR hpR2 hBp2 hfinQ
     rw [hKD2] at cR hpR2 hKp2 hfinQ
     cbv
     (repeat'((first|(apply zS;kernel_rfl)|(apply zD;decide +kernel)|(apply zE;decide +kernel)|(apply zF;decide +kernel)|(apply zL;decide +kernel)|(apply zM;decide +kernel)|(apply zN;intros)|(apply zO;intros)|(apply zT;omega)|(apply zU;omega)|(apply zP;omega;intros)|(apply zQ;omega;intros)|apply zR);cbv))
     refine .one cR hpR hpR2 ?_
     cbv
     (repeat'((first|(apply zS;kernel_rfl)|(apply zD;decide +kernel)|(apply zE;decide +kernel)|(apply zF;decide +kernel)|(apply zL;decide +kernel)|(apply zM;decide +kernel)|(apply zN;intros)|(apply zO;intros)|(apply zT;omega)|(apply zU;omega)|(apply zP;omega;intros)|(apply zQ;omega;intros)|apply zR);cbv))
     refine TailK.late (by decide +kernel) rfl rfl rfl rfl rfl rfl rfl rfl rfl rfl rfl (by decide) (by simp) (by simp) rfl rfl rfl rfl rfl rfl rfl ?_
     cbv
     (repeat'((first|(apply zS;kernel_rfl)|(apply zD;decide +kernel)|(apply zE;decide +kernel)|(apply zF;decide +kernel)|(apply zL;decide +kernel)|(apply zM;decide +kernel)|(apply zN;intros)|(apply zO;intros)|(apply zT;omega)|(apply zU;omega)|(apply zP;omega;intros)|(apply zQ;omega;intros)|apply zR);cbv))
     refine CallK.one is2 (hpl3 _ _) rfl ?_
     cbv
     (repeat'((first|(apply zS;kernel_rfl)|(apply zD;decide +kernel)|(apply zE;decide +kernel)|(apply zF;decide +kernel)|(apply zL;decide +kernel)|(apply zM;decide +kernel)|(apply zN;intros)|(apply zO;intros)|(apply zT;omega)|(apply zU;omega)|(apply zP;omega;intros)|(apply zQ;omega;intros)|apply zR);cbv))
     refine .one cW2 (hpl3 _ _) rfl ?_
     cbv
     (repeat'((first|(apply zS;kernel_rfl)|(apply zD;decide +kernel)|(apply zE;decide +kernel)|(apply zF;decide +kernel)|(apply zL;decide +kernel)|(apply zM;decide +kernel)|(apply zN;intros)|(apply zO;intros)|(apply zT;omega)|(apply zU;omega)|(apply zP;omega;intros)|(apply zQ;omega;intros)|apply zR);cbv))
     refine CallK.one (cB _ _) rfl (cBp _ _) ?_
     cbv
     (repeat'((first|(apply zS;kernel_rfl)|(apply zD;decide +kernel)|(apply zE;decide +kernel)|(apply zF;decide +kernel)|(apply zL;decide +kernel)|(apply zM;decide +kernel)|(apply zN;intros)|(apply zO;intros)|(apply zT;omega)|(apply zU;omega)|(apply zP;omega;intros)|(apply zQ;omega;intros)|apply zR);cbv))
     exact ⟨hbad _ _ (.refl _)⟩
    | true =>
     rw [if_pos h44] at cW2
     simp only at cW2
     rw [h44,if_neg (by simp)] at hR3
     cbv
     (repeat'((first|(apply zS;kernel_rfl)|(apply zD;decide +kernel)|(apply zE;decide +kernel)|(apply zF;decide +kernel)|(apply zL;decide +kernel)|(apply zM;decide +kernel)|(apply zN;intros)|(apply zO;intros)|(apply zT;omega)|(apply zU;omega)|(apply zP;omega;intros)|(apply zQ;omega;intros)|apply zR);cbv))
     refine .one ct hplJ hp ?_
     cbv
     (repeat'((first|(apply zS;kernel_rfl)|(apply zD;decide +kernel)|(apply zE;decide +kernel)|(apply zF;decide +kernel)|(apply zL;decide +kernel)|(apply zM;decide +kernel)|(apply zN;intros)|(apply zO;intros)|(apply zT;omega)|(apply zU;omega)|(apply zP;omega;intros)|(apply zQ;omega;intros)|apply zR);cbv))
     refine .one cN (cons_pure hp rfl) rfl ?_
     cbv
     (repeat'((first|(apply zS;kernel_rfl)|(apply zD;decide +kernel)|(apply zE;decide +kernel)|(apply zF;decide +kernel)|(apply zL;decide +kernel)|(apply zM;decide +kernel)|(apply zN;intros)|(apply zO;intros)|(apply zT;omega)|(apply zU;omega)|(apply zP;omega;intros)|(apply zQ;omega;intros)|apply zR);cbv))
     refine .one cP hplB rfl ?_
     cbv
     (repeat'((first|(apply zS;kernel_rfl)|(apply zD;decide +kernel)|(apply zE;decide +kernel)|(apply zF;decide +kernel)|(apply zL;decide +kernel)|(apply zM;decide +kernel)|(apply zN;intros)|(apply zO;intros)|(apply zT;omega)|(apply zU;omega)|(apply zP;omega;intros)|(apply zQ;omega;intros)|apply zR);cbv))
     rename_i r hr
     obtain rfl : r = j1 := by omega
     refine .one cW1 (hpl3 _ _) rfl ?_
     cbv
     (repeat'((first|(apply zS;kernel_rfl)|(apply zD;decide +kernel)|(apply zE;decide +kernel)|(apply zF;decide +kernel)|(apply zL;decide +kernel)|(apply zM;decide +kernel)|(apply zN;intros)|(apply zO;intros)|(apply zT;omega)|(apply zU;omega)|(apply zP;omega;intros)|(apply zQ;omega;intros)|apply zR);cbv))
     rename_i r hr r' hr'
     obtain rfl : r = j2 := by omega
     obtain rfl : r' = dp := by omega
     refine CallK.one cF hpl4 hG ?_
     cbv
     (repeat'((first|(apply zS;kernel_rfl)|(apply zD;decide +kernel)|(apply zE;decide +kernel)|(apply zF;decide +kernel)|(apply zL;decide +kernel)|(apply zM;decide +kernel)|(apply zN;intros)|(apply zO;intros)|(apply zT;omega)|(apply zU;omega)|(apply zP;omega;intros)|(apply zQ;omega;intros)|apply zR);cbv))
     refine DrawK.tail 3 (by kernel_rfl) (by decide +kernel) ?_
     cbv
     (repeat'((first|(apply zS;kernel_rfl)|(apply zD;decide +kernel)|(apply zE;decide +kernel)|(apply zF;decide +kernel)|(apply zL;decide +kernel)|(apply zM;decide +kernel)|(apply zN;intros)|(apply zO;intros)|(apply zT;omega)|(apply zU;omega)|(apply zP;omega;intros)|(apply zQ;omega;intros)|apply zR);cbv))
     refine HAppK.sl el_strs el_strs (by simp;omega) ?_
     intro A1 hA1
     have hA1 : A1 = BD := by simpa using hA1
     rw [hA1]
     clear hA1
     cbv
     (repeat'((first|(apply zS;kernel_rfl)|(apply zD;decide +kernel)|(apply zE;decide +kernel)|(apply zF;decide +kernel)|(apply zL;decide +kernel)|(apply zM;decide +kernel)|(apply zN;intros)|(apply zO;intros)|(apply zT;omega)|(apply zU;omega)|(apply zP;omega;intros)|(apply zQ;omega;intros)|apply zR);cbv))
     refine HAppK.sl el_strs el_strs (by simp;omega) ?_
     intro A2 hA2
     rw [← hA2] at cR hpR hpA
     clear hA2
     cbv
     (repeat'((first|(apply zS;kernel_rfl)|(apply zD;decide +kernel)|(apply zE;decide +kernel)|(apply zF;decide +kernel)|(apply zL;decide +kernel)|(apply zM;decide +kernel)|(apply zN;intros)|(apply zO;intros)|(apply zT;omega)|(apply zU;omega)|(apply zP;omega;intros)|(apply zQ;omega;intros)|apply zR);cbv))
     refine HAppK.sl el_tys el_tys (by simp;omega) ?_
     intro A3 hA3
     have hA3 : A3 = KD := by simpa using hA3
     rw [hA3]
     clear hA3
     cbv
     (repeat'((first|(apply zS;kernel_rfl)|(apply zD;decide +kernel)|(apply zE;decide +kernel)|(apply zF;decide +kernel)|(apply zL;decide +kernel)|(apply zM;decide +kernel)|(apply zN;intros)|(apply zO;intros)|(apply zT;omega)|(apply zU;omega)|(apply zP;omega;intros)|(apply zQ;omega;intros)|apply zR);cbv))
     refine HAppK.sl el_tys el_tys (by simp;omega) ?_
     intro A4 hA4
     rw [← hA4] at cR hpR hpB
     clear hA4
     obtain ⟨BD2,hBD2⟩ : ∃ x,B2.map strD = x := ⟨_,rfl⟩
     obtain ⟨KD2,hKD2⟩ : ∃ x,tysD K2 = x := ⟨_,rfl⟩
     rw [hBD2] at cR hpR2 hBp2 hfinQ
     rw [hKD2] at cR hpR2 hKp2 hfinQ
     cbv
     (repeat'((first|(apply zS;kernel_rfl)|(apply zD;decide +kernel)|(apply zE;decide +kernel)|(apply zF;decide +kernel)|(apply zL;decide +kernel)|(apply zM;decide +kernel)|(apply zN;intros)|(apply zO;intros)|(apply zT;omega)|(apply zU;omega)|(apply zP;omega;intros)|(apply zQ;omega;intros)|apply zR);cbv))
     refine .one cR hpR hpR2 ?_
     cbv
     (repeat'((first|(apply zS;kernel_rfl)|(apply zD;decide +kernel)|(apply zE;decide +kernel)|(apply zF;decide +kernel)|(apply zL;decide +kernel)|(apply zM;decide +kernel)|(apply zN;intros)|(apply zO;intros)|(apply zT;omega)|(apply zU;omega)|(apply zP;omega;intros)|(apply zQ;omega;intros)|apply zR);cbv))
     refine TailK.late (by decide +kernel) rfl rfl rfl rfl rfl rfl rfl rfl rfl rfl rfl (by decide) (by simp) (by simp) rfl rfl rfl rfl rfl rfl rfl ?_
     cbv
     (repeat'((first|(apply zS;kernel_rfl)|(apply zD;decide +kernel)|(apply zE;decide +kernel)|(apply zF;decide +kernel)|(apply zL;decide +kernel)|(apply zM;decide +kernel)|(apply zN;intros)|(apply zO;intros)|(apply zT;omega)|(apply zU;omega)|(apply zP;omega;intros)|(apply zQ;omega;intros)|apply zR);cbv))
     refine CallK.one is2 (hpl3 _ _) rfl ?_
     cbv
     (repeat'((first|(apply zS;kernel_rfl)|(apply zD;decide +kernel)|(apply zE;decide +kernel)|(apply zF;decide +kernel)|(apply zL;decide +kernel)|(apply zM;decide +kernel)|(apply zN;intros)|(apply zO;intros)|(apply zT;omega)|(apply zU;omega)|(apply zP;omega;intros)|(apply zQ;omega;intros)|apply zR);cbv))
     refine .one cW2 (hpl3 _ _) rfl ?_
     cbv
     (repeat'((first|(apply zS;kernel_rfl)|(apply zD;decide +kernel)|(apply zE;decide +kernel)|(apply zF;decide +kernel)|(apply zL;decide +kernel)|(apply zM;decide +kernel)|(apply zN;intros)|(apply zO;intros)|(apply zT;omega)|(apply zU;omega)|(apply zP;omega;intros)|(apply zQ;omega;intros)|apply zR);cbv))
     rename_i r hr r' hr'
     have e : r = to1 := by omega
     have hBD2i : ∀ m,idbL m BD2 = true := fun m => pure_idbL m _ hBp2
     have hKD2i : ∀ m,idbL m KD2 = true := fun m => pure_idbL m _ hKp2
     have k1 : inR r := by unfold inR;omega
     have k2 : ((ls2.length : Nat) : Int) ≤ r := by omega
     have k3 : r' = ((ls2.length : Nat) : Int) := by omega
     refine RoundK.forget (r',r,B2,K2) ⟨ls2,ks2,f,⟨k1,by rw [e];exact hR3.symm,k3,by omega,by omega,hT2,.inr k2,hf2,hn2⟩⟩ ?_ rfl ?_ ?_ ?_
     ·show l.length + 1 - r'.toNat < N
      omega
     ·subst hBD2
      subst hKD2
      rfl
     ·simp [idbL,idb,hLi]
     ·simp [cellIdb,idbL,idb,hBD2i,hKD2i]
def FieldsR (recT : List ByteArray -> List Ty5 -> Ty5) (l : List Tkn) : Prop := ∀ (rd : Int -> Rs) (deep : Int),-2000 ≤ deep ∧ deep ≤ 64 -> (∀ i t to,rd i = .ok t to -> to ≤ l.length ∧ i < to) -> (∀ i e p,rd i = .bad e p -> e ≠ 0) ->
 ReadsR 13 l (deep + 1) rd -> ReadsR 51 l deep fun j => fieldsS recT rd l (l.length + 1) j [] []
theorem simpler_of (l : List Tkn) (deep : Int) (R : Int -> Rs) (h : ∀ i,inR i -> ∀ Q : D -> H -> Prop,(∀ d h',Wk d (gotD (R i)) -> Q d h') -> wfun TT 33 [.sl none 4 (l.map tkD),.raw (.int .i64 i),.raw (.int .i64 deep)] [] Q) : ReadsR 33 l deep R := fun i hi =>
 runW (got_pure _) fun Q hQ => h i hi Q hQ
theorem readr_of (l : List Tkn) (deep : Int) (R : Int -> Rs) (h : ∀ i,inR i -> ∀ Q : D -> H -> Prop,(∀ d h',Wk d (gotD (R i)) -> Q d h') -> wfun TT 13 [.sl none 4 (l.map tkD),.raw (.int .i64 i),.raw (.int .i64 deep)] [] Q) : ReadsR 13 l deep R := fun i hi =>
 runW (got_pure _) fun Q hQ => h i hi Q hQ
theorem readr_reads (recT : List ByteArray -> List Ty5 -> Ty5) (l : List Tkn) (hll : l.length ≤ 1000000) (hs : ∀ j,(tokT l j).s.size ≤ maxLen) (hF : FieldsR recT l) : ∀ (n : Nat) (deep : Int),-2000 ≤ deep -> (65 - deep).toNat = n -> ReadsR 13 l deep (readS recT l n)
 | 0,deep,h0,h1 => readr_of l deep _ fun i _ Q hQ => readr_deep l deep (by omega) i Q hQ
 | n + 1,deep,h0,h1 => by
  have ih := readr_reads recT l hll hs hF n (deep + 1) (by omega) (by omega)
  have hrd : ∀ i t to,readS recT l n i = .ok t to -> to ≤ l.length ∧ i < to := fun i t to e => ⟨readS_le e,readS_to e⟩
  have hne : ∀ i e p,readS recT l n i = .bad e p -> e ≠ 0 := fun i e p h => readS_ne h
  have hf := hF (readS recT l n) deep ⟨h0,by omega⟩ hrd hne ih
  have hsm := simpler_of l deep (simpleS recT (readS recT l n) l) fun i hi Q hQ => simpler_run recT (readS recT l n) l hll hs deep ⟨h0,by omega⟩ hrd hne ih hf i hi Q hQ
  exact readr_of l deep _ fun i hi Q hQ => readr_run (simpleS recT (readS recT l n) l) (readS recT l n) l hll deep ⟨h0,by omega⟩ (fun i t to e => ⟨simpleS_le (fun i t to e => (hrd i t to e).1) e,simpleS_to (fun i t to e => (hrd i t to e).2) e⟩) (fun i e p h => simpleS_ne hne h) hne hsm ih i hi _ (by (simp only [readS];try rfl)) Q hQ
theorem fields_reads (recT : List ByteArray -> List Ty5 -> Ty5) (l : List Tkn) (hll : l.length ≤ 1000000) (hs : ∀ j,(tokT l j).s.size ≤ maxLen) (hok : RecOk recT (l.length + 1)) : FieldsR recT l := fun rd deep hd hrd hne hw i hi =>
 runW (got_pure _) fun Q hQ => fieldsr_run recT rd l hll hs hok deep hd hrd hne hw i hi _ rfl Q hQ
end Go.Proofs.YtkoabcncdjmoeaaGreatDoor

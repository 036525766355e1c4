/- Parts of the proof: EpL, EpP. -/
import Derived.Test.YtglefhgcfijiaaaGAz
import Derived.Test.YtglefhgcfijiaaaGBa
set_option linter.unusedSimpArgs false
set_option linter.unusedVariables false
set_option maxRecDepth 1000000
set_option maxHeartbeats 40000000
namespace Go.Proofs.Ytglefhgcfijiaaa
open Go.RowKit Pv
structure ExpPk : Prop where
 awake : CP (TT ()) 7 [] (· = .raw (.bool true))
 right : ∀ e,okE e -> nodesE e ≤ 5000 -> CP (TT ()) 10 [exD e] (· = .raw (.bool (rightE e)))
 nodes : ∀ e,okE e -> nodesE e ≤ 5000 -> CP (TT ()) 12 [exD e] (· = .raw (.int .i64 (nodesE e)))
 depth : ∀ e,okE e -> nodesE e ≤ 5000 -> CP (TT ()) 14 [exD e] (· = .raw (.int .i64 (depthE e)))
 count : ∀ e,okE e -> nodesE e ≤ 5000 -> CP (TT ()) 16 [exD e] (· = .raw (.int .i64 (countE e)))
 at_ : ∀ (e : Ex7) (j : Int),okE e -> nodesE e ≤ 5000 -> -9223372036854775808 ≤ j ∧ j ≤ 9223372036854775807 -> CP (TT ()) 8 [exD e,.raw (.int .i64 j)] (· = atP (atE e j.toNat))
 free : ∀ e,okE e -> nodesE e ≤ 5000 -> CP (TT ()) 20 [exD e] (· = .sl none 1 ((freeE e).map strD))
 calls : ∀ e,okE e -> nodesE e ≤ 5000 -> CP (TT ()) 22 [exD e] (· = .sl none 1 ((callsE e).map strD))
 same : ∀ a b,okE a -> okE b -> nodesE a ≤ 5000 -> nodesE b ≤ 5000 -> CP (TT ()) 25 [exD a,exD b] (· = .raw (.bool (sameE a b)))
 sameSig : ∀ s t : Sg,okS s -> okS t -> s.bs.length ≤ 5000 -> s.ps.length ≤ 5000 -> t.bs.length ≤ 5000 -> t.ps.length ≤ 5000 -> CP (TT ()) 26 [sgD s,sgD t] (· = .raw (.bool (sameSg s t)))
 sameDef : ∀ c d : Df,okD c -> okD d -> sizeN c ≤ 5000 -> sizeN d ≤ 5000 -> c.sg.bs.length ≤ 5000 -> c.sg.ps.length ≤ 5000 -> d.sg.bs.length ≤ 5000 -> d.sg.ps.length ≤ 5000 -> CP (TT ()) 28 [dfD c,dfD d] (· = .raw (.bool (sameDf c d)))
theorem beq14 {x y : Operand} {b : Bool} {K : D -> Prop} (hk : K (.raw (.bool true))) : BinK TT .eql 4 x y (.bool b) (.bool b) K :=
 ⟨.bool true,by cases b <;> first | rfl | kernel_rfl,hk⟩
theorem foldPut_mem : ∀ (m l : List ByteArray) (u : ByteArray),u ∈ m.foldl putL l -> u ∈ m ∨ u ∈ l
 | [],l,u,h => .inr h
 | s :: r,l,u,h => by
  rcases foldPut_mem r (putL l s) u h with h | h
  ·exact .inl (List.mem_cons_of_mem _ h)
  ·rw [putL_eq] at h
   rcases (putR_mem s u l).1 h with rfl | h
   ·exact .inl (List.mem_cons_self ..)
   ·exact .inr h
theorem keepF_mem {k : Int} {nm : ByteArray} {i : Nat} {l : List ByteArray} {u : ByteArray} (h : u ∈ keepF k nm i l) : u ∈ l := by
 unfold keepF at h
 split at h
 ·exact (List.mem_filter.1 h).1
 ·exact h
mutual
theorem freeE_fit : ∀ e : Ex7,okE e -> ∀ u ∈ freeE e,u.size ≤ maxLen
 | .mk k n nm hs ts ls ks,ho,u,hu => by
  simp only [freeE] at hu
  refine freeEL_fit k nm ks 0 _ ho.2.2.2 (fun v hv => ?_) u hu
  split at hv
  ·simp at hv
   subst hv
   exact ho.1
  ·cases hv
theorem freeEL_fit (k : Int) (nm : ByteArray) : ∀ (ks : List Ex7) (i : Nat) (a : List ByteArray),okE.okL ks -> (∀ u ∈ a,u.size ≤ maxLen) -> ∀ u ∈ freeEL k nm i a ks,u.size ≤ maxLen
 | [],i,a,_,ha,u,hu => by
  simp only [freeEL] at hu
  exact ha u hu
 | t :: r,i,a,ho,ha,u,hu => by
  simp only [freeEL] at hu
  refine freeEL_fit k nm r (i + 1) _ ho.2 (fun v hv => ?_) u hu
  rcases foldPut_mem _ _ _ hv with hv | hv
  ·exact freeE_fit t ho.1 v (keepF_mem hv)
  ·exact ha v hv
end
mutual
theorem callsE_fit : ∀ e : Ex7,okE e -> ∀ u ∈ callsE e,u.size ≤ maxLen
 | .mk k n nm hs ts ls ks,ho,u,hu => by
  simp only [callsE] at hu
  refine callsEL_fit ks _ ho.2.2.2 (fun v hv => ?_) u hu
  split at hv
  ·simp at hv
   subst hv
   exact ho.1
  ·cases hv
theorem callsEL_fit : ∀ (ks : List Ex7) (a : List ByteArray),okE.okL ks -> (∀ u ∈ a,u.size ≤ maxLen) -> ∀ u ∈ callsEL a ks,u.size ≤ maxLen
 | [],a,_,ha,u,hu => by
  simp only [callsEL] at hu
  exact ha u hu
 | t :: r,a,ho,ha,u,hu => by
  simp only [callsEL] at hu
  refine callsEL_fit r _ ho.2 (fun v hv => ?_) u hu
  rcases foldPut_mem _ _ _ hv with hv | hv
  ·exact callsE_fit t ho.1 v hv
  ·exact ha v hv
end
theorem ex0_ok : okE ex0 := ⟨by decide,trivial,fun s h => (by cases h),trivial⟩
theorem atO_ok {e : Ex7} (ho : okE e) (j : Nat) : okE ((atE e j).getD ex0) ∧ nodesE ((atE e j).getD ex0) ≤ nodesE e := by
 cases h : atE e j with
 | none =>
  refine ⟨ex0_ok,?_⟩
  have := nodesE_pos e
  simp only [Option.getD_none,ex0,nodesE,nodesL,nodesEL]
  omega
 | some x =>
  obtain ⟨h1,h2⟩ := atE_ok e j x h
  exact ⟨h1 ho,h2⟩
theorem tells14_run (P : ExpPk) (e : Ex7) (j : Int) (ho : okE e) (hz : szE e ≤ 1048576) (hj : -9223372036854775808 ≤ j ∧ j ≤ 9223372036854775807) (Q : D -> H -> Prop) (hQ : ∀ h',Q (.raw (.bool true)) h') :
  wfun TT 3 [exD e,.raw (.int .i64 j)] [] Q := by
 have cA := P.awake
 have hml := muchE_le e
 obtain ⟨M,hM0,hM⟩ : ∃ M : Int,0 ≤ M ∧ M.toNat = muchE e := ⟨((muchE e : Nat) : Int),by omega,by omega⟩
 have cM := muchE_cp e ho hz M hM0 hM
 obtain ⟨x,hx⟩ : ∃ x,x = (atE e j.toNat).getD ex0 := ⟨_,rfl⟩
 obtain ⟨bx,hbx⟩ : ∃ b,b = (atE e j.toNat).isSome := ⟨_,rfl⟩
 obtain ⟨nn,hnn⟩ : ∃ z : Int,z = ((nodesE e : Nat) : Int) := ⟨_,rfl⟩
 obtain ⟨dd,hdd⟩ : ∃ z : Int,z = ((depthE e : Nat) : Int) := ⟨_,rfl⟩
 obtain ⟨cc,hcc⟩ : ∃ z : Int,z = ((countE e : Nat) : Int) := ⟨_,rfl⟩
 have main : M ≤ 1000 ->
   CP (TT ()) 8 [exD e,.raw (.int .i64 j)] (· = .tup [exD x,.raw (.bool bx)]) ∧ CP (TT ()) 9 [exD e,.raw (.int .i64 j)] (· = .tup [exD x,.raw (.bool bx)]) ∧
   CP (TT ()) 10 [exD e] (· = .raw (.bool (rightE e))) ∧ CP (TT ()) 11 [exD e] (· = .raw (.bool (rightE e))) ∧
   CP (TT ()) 12 [exD e] (· = .raw (.int .i64 nn)) ∧ CP (TT ()) 13 [exD e] (· = .raw (.int .i64 nn)) ∧
   CP (TT ()) 14 [exD e] (· = .raw (.int .i64 dd)) ∧ CP (TT ()) 15 [exD e] (· = .raw (.int .i64 dd)) ∧
   CP (TT ()) 16 [exD e] (· = .raw (.int .i64 cc)) ∧ CP (TT ()) 17 [exD e] (· = .raw (.int .i64 cc)) ∧
   CP (TT ()) 20 [exD e] (· = .sl none 1 ((freeE e).map strD)) ∧ CP (TT ()) 21 [exD e] (· = .sl none 1 ((freeE e).map strD)) ∧
   CP (TT ()) 22 [exD e] (· = .sl none 1 ((callsE e).map strD)) ∧ CP (TT ()) 23 [exD e] (· = .sl none 1 ((callsE e).map strD)) ∧
   CP (TT ()) 18 [exD x,exD x] (· = .raw (.bool true)) ∧
   CP (TT ()) 19 [.sl none 1 ((freeE e).map strD),.sl none 1 ((freeE e).map strD)] (· = .raw (.bool true)) ∧
   CP (TT ()) 19 [.sl none 1 ((callsE e).map strD),.sl none 1 ((callsE e).map strD)] (· = .raw (.bool true)) := fun h => by
  have hn := muchE_nodes e (by omega)
  obtain ⟨hxo,hxn⟩ := atO_ok ho j.toNat
  have e1 := rsameE_cp _ hxo (by omega) _ hxo
  have e2 := sameS14_cp _ _ (freeE_fit e ho) (freeE_fit e ho)
  have e3 := sameS14_cp _ _ (callsE_fit e ho) (callsE_fit e ho)
  rw [sameE_refl] at e1
  rw [eqL_refl] at e2 e3
  rw [hx,hbx,hnn,hdd,hcc]
  exact ⟨P.at_ e j ho (by omega) hj,rat_cp e ho (by omega) j hj.2,P.right e ho (by omega),rrightE_cp e ho (by omega),P.nodes e ho (by omega),rnodesE_cp e ho (by omega),P.depth e ho (by omega),rdepthE_cp e ho (by omega),
   P.count e ho (by omega),rcountE_cp e ho (by omega),P.free e ho (by omega),rfreeE_cp e ho (by omega),P.calls e ho (by omega),rcallsE_cp e ho (by omega),e1,e2,e3⟩
 have hp := ex_pure e
 have hpx := ex_pure x
 have hFp := strs_pure (freeE e)
 have hCp := strs_pure (callsE e)
 clear hM hml hx hbx hnn hdd hcc hz ho
 generalize (freeE e).map strD = FS at main hFp
 generalize (callsE e).map strD = CS at main hCp
 generalize rightE e = bR at main
 obtain ⟨k1,n1,m1,b1,T1,L1,K1,f1,_,_,_⟩ := ex_node e
 obtain ⟨k2,n2,m2,b2,T2,L2,K2,f2,_,_,_⟩ := ex_node x
 rw [f1] at cM hp main ⊢
 rw [f2] at hpx main
 clear f1 f2
 have hpt : pureD (.tup [.agg [.raw (.int .i64 k2),.raw (.int .i64 n2),.raw (.string m2),.raw (.bool b2),.sl none 5 T2,.sl none 1 L2,.sl none 7 K2],.raw (.bool bx)]) = some (.tup [.agg [.raw (.int .i64 k2),.raw (.int .i64 n2),.raw (.string m2),.raw (.bool b2),.sl none 5 T2,.sl none 1 L2,.sl none 7 K2],.raw (.bool bx)]) := tup_pure (cons_pure hpx rfl)
 cbv
 (repeat'((first|(apply zS;kernel_rfl)|(apply zD;decide +kernel)|(apply zE;decide +kernel)|(apply zF;decide +kernel)|(apply zL;decide +kernel)|(apply zM;decide +kernel)|(apply zN;intros)|(apply zO;intros)|(apply zT;omega)|(apply zU;omega)|(apply zP;omega;intros)|(apply zQ;omega;intros)|apply zR);cbv))
 refine .one cM (cons_pure hp rfl) rfl ?_
 cbv
 (repeat'((first|(apply zS;kernel_rfl)|(apply zD;decide +kernel)|(apply zE;decide +kernel)|(apply zF;decide +kernel)|(apply zL;decide +kernel)|(apply zM;decide +kernel)|(apply zN;intros)|(apply zO;intros)|(apply zT;omega)|(apply zU;omega)|(apply zP;omega;intros)|(apply zQ;omega;intros)|apply zR);cbv))
 refine BinK.gtr ?_ ?_ <;> intro h1000 <;> cbv <;> (repeat'((first|(apply zS;kernel_rfl)|(apply zD;decide +kernel)|(apply zE;decide +kernel)|(apply zF;decide +kernel)|(apply zL;decide +kernel)|(apply zM;decide +kernel)|(apply zN;intros)|(apply zO;intros)|(apply zT;omega)|(apply zU;omega)|(apply zP;omega;intros)|(apply zQ;omega;intros)|apply zR);cbv))
 ·refine .one cA rfl rfl ?_
  cbv
  (repeat'((first|(apply zS;kernel_rfl)|(apply zD;decide +kernel)|(apply zE;decide +kernel)|(apply zF;decide +kernel)|(apply zL;decide +kernel)|(apply zM;decide +kernel)|(apply zN;intros)|(apply zO;intros)|(apply zT;omega)|(apply zU;omega)|(apply zP;omega;intros)|(apply zQ;omega;intros)|apply zR);cbv))
  exact ⟨hQ _⟩
 obtain ⟨c1,c2,c3,c4,c5,c6,c7,c8,c9,c10,c11,c12,c13,c14,c15,c16,c17⟩ := main h1000
 clear main cM
 refine .one c1 (cons_pure hp rfl) hpt ?_
 cbv
 (repeat'((first|(apply zS;kernel_rfl)|(apply zD;decide +kernel)|(apply zE;decide +kernel)|(apply zF;decide +kernel)|(apply zL;decide +kernel)|(apply zM;decide +kernel)|(apply zN;intros)|(apply zO;intros)|(apply zT;omega)|(apply zU;omega)|(apply zP;omega;intros)|(apply zQ;omega;intros)|apply zR);cbv))
 refine .one c2 (cons_pure hp rfl) hpt ?_
 cbv
 (repeat'((first|(apply zS;kernel_rfl)|(apply zD;decide +kernel)|(apply zE;decide +kernel)|(apply zF;decide +kernel)|(apply zL;decide +kernel)|(apply zM;decide +kernel)|(apply zN;intros)|(apply zO;intros)|(apply zT;omega)|(apply zU;omega)|(apply zP;omega;intros)|(apply zQ;omega;intros)|apply zR);cbv))
 refine .one c3 (cons_pure hp rfl) rfl ?_
 cbv
 (repeat'((first|(apply zS;kernel_rfl)|(apply zD;decide +kernel)|(apply zE;decide +kernel)|(apply zF;decide +kernel)|(apply zL;decide +kernel)|(apply zM;decide +kernel)|(apply zN;intros)|(apply zO;intros)|(apply zT;omega)|(apply zU;omega)|(apply zP;omega;intros)|(apply zQ;omega;intros)|apply zR);cbv))
 refine .one c4 (cons_pure hp rfl) rfl ?_
 cbv
 (repeat'((first|(apply zS;kernel_rfl)|(apply zD;decide +kernel)|(apply zE;decide +kernel)|(apply zF;decide +kernel)|(apply zL;decide +kernel)|(apply zM;decide +kernel)|(apply zN;intros)|(apply zO;intros)|(apply zT;omega)|(apply zU;omega)|(apply zP;omega;intros)|(apply zQ;omega;intros)|apply zR);cbv))
 refine beq14 ?_
 cbv
 (repeat'((first|(apply zS;kernel_rfl)|(apply zD;decide +kernel)|(apply zE;decide +kernel)|(apply zF;decide +kernel)|(apply zL;decide +kernel)|(apply zM;decide +kernel)|(apply zN;intros)|(apply zO;intros)|(apply zT;omega)|(apply zU;omega)|(apply zP;omega;intros)|(apply zQ;omega;intros)|apply zR);cbv))
 refine .one c5 (cons_pure hp rfl) rfl ?_
 cbv
 (repeat'((first|(apply zS;kernel_rfl)|(apply zD;decide +kernel)|(apply zE;decide +kernel)|(apply zF;decide +kernel)|(apply zL;decide +kernel)|(apply zM;decide +kernel)|(apply zN;intros)|(apply zO;intros)|(apply zT;omega)|(apply zU;omega)|(apply zP;omega;intros)|(apply zQ;omega;intros)|apply zR);cbv))
 refine .one c6 (cons_pure hp rfl) rfl ?_
 cbv
 (repeat'((first|(apply zS;kernel_rfl)|(apply zD;decide +kernel)|(apply zE;decide +kernel)|(apply zF;decide +kernel)|(apply zL;decide +kernel)|(apply zM;decide +kernel)|(apply zN;intros)|(apply zO;intros)|(apply zT;omega)|(apply zU;omega)|(apply zP;omega;intros)|(apply zQ;omega;intros)|apply zR);cbv))
 try (refine BinK.eqlT rfl ?_;cbv;(repeat'((first|(apply zS;kernel_rfl)|(apply zD;decide +kernel)|(apply zE;decide +kernel)|(apply zF;decide +kernel)|(apply zL;decide +kernel)|(apply zM;decide +kernel)|(apply zN;intros)|(apply zO;intros)|(apply zT;omega)|(apply zU;omega)|(apply zP;omega;intros)|(apply zQ;omega;intros)|apply zR);cbv)))
 refine .one c7 (cons_pure hp rfl) rfl ?_
 cbv
 (repeat'((first|(apply zS;kernel_rfl)|(apply zD;decide +kernel)|(apply zE;decide +kernel)|(apply zF;decide +kernel)|(apply zL;decide +kernel)|(apply zM;decide +kernel)|(apply zN;intros)|(apply zO;intros)|(apply zT;omega)|(apply zU;omega)|(apply zP;omega;intros)|(apply zQ;omega;intros)|apply zR);cbv))
 refine .one c8 (cons_pure hp rfl) rfl ?_
 cbv
 (repeat'((first|(apply zS;kernel_rfl)|(apply zD;decide +kernel)|(apply zE;decide +kernel)|(apply zF;decide +kernel)|(apply zL;decide +kernel)|(apply zM;decide +kernel)|(apply zN;intros)|(apply zO;intros)|(apply zT;omega)|(apply zU;omega)|(apply zP;omega;intros)|(apply zQ;omega;intros)|apply zR);cbv))
 try (refine BinK.eqlT rfl ?_;cbv;(repeat'((first|(apply zS;kernel_rfl)|(apply zD;decide +kernel)|(apply zE;decide +kernel)|(apply zF;decide +kernel)|(apply zL;decide +kernel)|(apply zM;decide +kernel)|(apply zN;intros)|(apply zO;intros)|(apply zT;omega)|(apply zU;omega)|(apply zP;omega;intros)|(apply zQ;omega;intros)|apply zR);cbv)))
 refine .one c9 (cons_pure hp rfl) rfl ?_
 cbv
 (repeat'((first|(apply zS;kernel_rfl)|(apply zD;decide +kernel)|(apply zE;decide +kernel)|(apply zF;decide +kernel)|(apply zL;decide +kernel)|(apply zM;decide +kernel)|(apply zN;intros)|(apply zO;intros)|(apply zT;omega)|(apply zU;omega)|(apply zP;omega;intros)|(apply zQ;omega;intros)|apply zR);cbv))
 refine .one c10 (cons_pure hp rfl) rfl ?_
 cbv
 (repeat'((first|(apply zS;kernel_rfl)|(apply zD;decide +kernel)|(apply zE;decide +kernel)|(apply zF;decide +kernel)|(apply zL;decide +kernel)|(apply zM;decide +kernel)|(apply zN;intros)|(apply zO;intros)|(apply zT;omega)|(apply zU;omega)|(apply zP;omega;intros)|(apply zQ;omega;intros)|apply zR);cbv))
 try (refine BinK.eqlT rfl ?_;cbv;(repeat'((first|(apply zS;kernel_rfl)|(apply zD;decide +kernel)|(apply zE;decide +kernel)|(apply zF;decide +kernel)|(apply zL;decide +kernel)|(apply zM;decide +kernel)|(apply zN;intros)|(apply zO;intros)|(apply zT;omega)|(apply zU;omega)|(apply zP;omega;intros)|(apply zQ;omega;intros)|apply zR);cbv)))
 refine .one c15 (cons_pure hpx (cons_pure hpx rfl)) rfl ?_
 cbv
 (repeat'((first|(apply zS;kernel_rfl)|(apply zD;decide +kernel)|(apply zE;decide +kernel)|(apply zF;decide +kernel)|(apply zL;decide +kernel)|(apply zM;decide +kernel)|(apply zN;intros)|(apply zO;intros)|(apply zT;omega)|(apply zU;omega)|(apply zP;omega;intros)|(apply zQ;omega;intros)|apply zR);cbv))
 refine beq14 ?_
 cbv
 (repeat'((first|(apply zS;kernel_rfl)|(apply zD;decide +kernel)|(apply zE;decide +kernel)|(apply zF;decide +kernel)|(apply zL;decide +kernel)|(apply zM;decide +kernel)|(apply zN;intros)|(apply zO;intros)|(apply zT;omega)|(apply zU;omega)|(apply zP;omega;intros)|(apply zQ;omega;intros)|apply zR);cbv))
 refine .one c11 (cons_pure hp rfl) (by simp [pureD,hFp]) ?_
 cbv
 (repeat'((first|(apply zS;kernel_rfl)|(apply zD;decide +kernel)|(apply zE;decide +kernel)|(apply zF;decide +kernel)|(apply zL;decide +kernel)|(apply zM;decide +kernel)|(apply zN;intros)|(apply zO;intros)|(apply zT;omega)|(apply zU;omega)|(apply zP;omega;intros)|(apply zQ;omega;intros)|apply zR);cbv))
 refine .one c12 (cons_pure hp rfl) (by simp [pureD,hFp]) ?_
 cbv
 (repeat'((first|(apply zS;kernel_rfl)|(apply zD;decide +kernel)|(apply zE;decide +kernel)|(apply zF;decide +kernel)|(apply zL;decide +kernel)|(apply zM;decide +kernel)|(apply zN;intros)|(apply zO;intros)|(apply zT;omega)|(apply zU;omega)|(apply zP;omega;intros)|(apply zQ;omega;intros)|apply zR);cbv))
 refine .one c16 (by simp [pureL,pureD,hFp]) rfl ?_
 cbv
 (repeat'((first|(apply zS;kernel_rfl)|(apply zD;decide +kernel)|(apply zE;decide +kernel)|(apply zF;decide +kernel)|(apply zL;decide +kernel)|(apply zM;decide +kernel)|(apply zN;intros)|(apply zO;intros)|(apply zT;omega)|(apply zU;omega)|(apply zP;omega;intros)|(apply zQ;omega;intros)|apply zR);cbv))
 refine .one c13 (cons_pure hp rfl) (by simp [pureD,hCp]) ?_
 cbv
 (repeat'((first|(apply zS;kernel_rfl)|(apply zD;decide +kernel)|(apply zE;decide +kernel)|(apply zF;decide +kernel)|(apply zL;decide +kernel)|(apply zM;decide +kernel)|(apply zN;intros)|(apply zO;intros)|(apply zT;omega)|(apply zU;omega)|(apply zP;omega;intros)|(apply zQ;omega;intros)|apply zR);cbv))
 refine .one c14 (cons_pure hp rfl) (by simp [pureD,hCp]) ?_
 cbv
 (repeat'((first|(apply zS;kernel_rfl)|(apply zD;decide +kernel)|(apply zE;decide +kernel)|(apply zF;decide +kernel)|(apply zL;decide +kernel)|(apply zM;decide +kernel)|(apply zN;intros)|(apply zO;intros)|(apply zT;omega)|(apply zU;omega)|(apply zP;omega;intros)|(apply zQ;omega;intros)|apply zR);cbv))
 refine .one c17 (by simp [pureL,pureD,hCp]) rfl ?_
 cbv
 (repeat'((first|(apply zS;kernel_rfl)|(apply zD;decide +kernel)|(apply zE;decide +kernel)|(apply zF;decide +kernel)|(apply zL;decide +kernel)|(apply zM;decide +kernel)|(apply zN;intros)|(apply zO;intros)|(apply zT;omega)|(apply zU;omega)|(apply zP;omega;intros)|(apply zQ;omega;intros)|apply zR);cbv))
 refine .one cA rfl rfl ?_
 cbv
 (repeat'((first|(apply zS;kernel_rfl)|(apply zD;decide +kernel)|(apply zE;decide +kernel)|(apply zF;decide +kernel)|(apply zL;decide +kernel)|(apply zM;decide +kernel)|(apply zN;intros)|(apply zO;intros)|(apply zT;omega)|(apply zU;omega)|(apply zP;omega;intros)|(apply zQ;omega;intros)|apply zR);cbv))
 exact ⟨hQ _⟩
structure FitD (d : Df) : Prop where
 ok : okD d
 bd : szE d.bd ≤ 1048576
 l1 : d.sg.bs.length ≤ 1048576
 l2 : d.sg.ps.length ≤ 1048576
 z1 : ∀ p ∈ d.sg.bs,p.1.size ≤ 1048576 ∧ szT p.2 ≤ 1048576
 z2 : ∀ p ∈ d.sg.ps,p.1.size ≤ 1048576 ∧ szT p.2 ≤ 1048576
 rs : szT d.sg.rs ≤ 1048576
 nm : d.sg.nm.size ≤ 1048576
theorem same14_run (P : ExpPk) (a b : Ex7) (c d : Df) (ha : okE a) (hb : okE b) (hza : szE a ≤ 1048576) (hzb : szE b ≤ 1048576) (hc : FitD c) (hd : FitD d) (Q : D -> H -> Prop) (hQ : ∀ h',Q (.raw (.bool true)) h') :
  wfun TT 4 [exD a,exD b,dfD c,dfD d] [] Q := by
 have cA := P.awake
 have hma := muchE_le a
 have hmb := muchE_le b
 obtain ⟨A,hA0,hA⟩ : ∃ M : Int,0 ≤ M ∧ M.toNat = muchE a := ⟨((muchE a : Nat) : Int),by omega,by omega⟩
 obtain ⟨B,hB0,hB⟩ : ∃ M : Int,0 ≤ M ∧ M.toNat = muchE b := ⟨((muchE b : Nat) : Int),by omega,by omega⟩
 have cMa := muchE_cp a ha hza A hA0 hA
 have cMb := muchE_cp b hb hzb B hB0 hB
 obtain ⟨C,hC0,hC,cMc⟩ := all14_cp c hc.ok hc.bd hc.l1 hc.l2 hc.z1 hc.z2 hc.rs hc.nm
 obtain ⟨E,hE0,hE,cMd⟩ := all14_cp d hd.ok hd.bd hd.l1 hd.l2 hd.z1 hd.z2 hd.rs hd.nm
 have main : A ≤ 1000 -> B ≤ 1000 -> C ≤ 1000 -> E ≤ 1000 ->
   CP (TT ()) 25 [exD a,exD b] (· = .raw (.bool (sameE a b))) ∧ CP (TT ()) 18 [exD a,exD b] (· = .raw (.bool (sameE a b))) ∧ CP (TT ()) 25 [exD a,exD a] (· = .raw (.bool true)) ∧
   CP (TT ()) 26 [sgD c.sg,sgD d.sg] (· = .raw (.bool (sameSg c.sg d.sg))) ∧ CP (TT ()) 27 [sgD c.sg,sgD d.sg] (· = .raw (.bool (sameSg c.sg d.sg))) ∧
   CP (TT ()) 28 [dfD c,dfD d] (· = .raw (.bool (sameDf c d))) ∧ CP (TT ()) 29 [dfD c,dfD d] (· = .raw (.bool (sameDf c d))) ∧ CP (TT ()) 28 [dfD d,dfD d] (· = .raw (.bool true)) := fun h1 h2 h3 h4 => by
  have g1 := muchE_nodes a (by omega)
  have g2 := muchE_nodes b (by omega)
  obtain ⟨q1,q2,q3,q4⟩ := allN_size (d := c) (by omega)
  obtain ⟨r1,r2,r3,r4⟩ := allN_size (d := d) (by omega)
  have e1 := P.same a a ha ha (by omega) (by omega)
  have e2 := P.sameDef d d hd.ok hd.ok (by omega) (by omega) (by omega) (by omega) (by omega) (by omega)
  rw [sameE_refl] at e1
  rw [sameDf_refl] at e2
  exact ⟨P.same a b ha hb (by omega) (by omega),rsameE_cp a ha (by omega) b hb,e1,P.sameSig _ _ hc.ok.1 hd.ok.1 (by omega) (by omega) (by omega) (by omega),sameSig_cp _ _ hc.ok.1 hd.ok.1 (by omega) (by omega),
   P.sameDef c d hc.ok hd.ok (by omega) (by omega) (by omega) (by omega) (by omega) (by omega),sameDef_cp c d hc.ok hd.ok (by omega) (by omega) (by omega),e2⟩
 have p1 := ex_pure a
 have p2 := ex_pure b
 have p3 := df_pure c
 have p4 := df_pure d
 have p5 := sg_pure c.sg
 have p6 := sg_pure d.sg
 clear hma hmb hA hB hC hE ha hb hza hzb hc hd
 generalize sameE a b = b1 at main
 generalize sameSg c.sg d.sg = b2 at main
 generalize sameDf c d = b3 at main
 obtain ⟨k1,n1,m1,b1',T1,L1,K1,f1,_,_,_⟩ := ex_node a
 obtain ⟨k2,n2,m2,b2',T2,L2,K2,f2,_,_,_⟩ := ex_node b
 obtain ⟨nm,B1,C1,k,n,tn,L,K,ek,en,em,eh,eT,eL,eK,e0,e1,_⟩ := df_node c
 obtain ⟨nm',B1',C1',k',n',tn',L',K',ek',en',em',eh',eT',eL',eK',e0',e1',_⟩ := df_node d
 rw [f1] at cMa p1 main ⊢
 rw [f2] at cMb p2 main ⊢
 rw [e0] at cMc p3 main ⊢
 rw [e0'] at cMd p4 main ⊢
 rw [e1] at p5 main
 rw [e1'] at p6 main
 clear f1 f2 e0 e1 e0' e1'
 have go : ∀ h',Q (.raw (.bool true)) h' := hQ
 cbv
 (repeat'((first|(apply zS;kernel_rfl)|(apply zD;decide +kernel)|(apply zE;decide +kernel)|(apply zF;decide +kernel)|(apply zL;decide +kernel)|(apply zM;decide +kernel)|(apply zN;intros)|(apply zO;intros)|(apply zT;omega)|(apply zU;omega)|(apply zP;omega;intros)|(apply zQ;omega;intros)|apply zR);cbv))
 refine .one cMa (cons_pure p1 rfl) rfl ?_
 cbv
 (repeat'((first|(apply zS;kernel_rfl)|(apply zD;decide +kernel)|(apply zE;decide +kernel)|(apply zF;decide +kernel)|(apply zL;decide +kernel)|(apply zM;decide +kernel)|(apply zN;intros)|(apply zO;intros)|(apply zT;omega)|(apply zU;omega)|(apply zP;omega;intros)|(apply zQ;omega;intros)|apply zR);cbv))
 refine BinK.gtr ?_ ?_ <;> intro h1 <;> cbv <;> (repeat'((first|(apply zS;kernel_rfl)|(apply zD;decide +kernel)|(apply zE;decide +kernel)|(apply zF;decide +kernel)|(apply zL;decide +kernel)|(apply zM;decide +kernel)|(apply zN;intros)|(apply zO;intros)|(apply zT;omega)|(apply zU;omega)|(apply zP;omega;intros)|(apply zQ;omega;intros)|apply zR);cbv))
 ·refine .one cA rfl rfl ?_
  cbv
  (repeat'((first|(apply zS;kernel_rfl)|(apply zD;decide +kernel)|(apply zE;decide +kernel)|(apply zF;decide +kernel)|(apply zL;decide +kernel)|(apply zM;decide +kernel)|(apply zN;intros)|(apply zO;intros)|(apply zT;omega)|(apply zU;omega)|(apply zP;omega;intros)|(apply zQ;omega;intros)|apply zR);cbv))
  exact ⟨hQ _⟩
 refine .one cMb (cons_pure p2 rfl) rfl ?_
 cbv
 (repeat'((first|(apply zS;kernel_rfl)|(apply zD;decide +kernel)|(apply zE;decide +kernel)|(apply zF;decide +kernel)|(apply zL;decide +kernel)|(apply zM;decide +kernel)|(apply zN;intros)|(apply zO;intros)|(apply zT;omega)|(apply zU;omega)|(apply zP;omega;intros)|(apply zQ;omega;intros)|apply zR);cbv))
 refine BinK.gtr ?_ ?_ <;> intro h2 <;> cbv <;> (repeat'((first|(apply zS;kernel_rfl)|(apply zD;decide +kernel)|(apply zE;decide +kernel)|(apply zF;decide +kernel)|(apply zL;decide +kernel)|(apply zM;decide +kernel)|(apply zN;intros)|(apply zO;intros)|(apply zT;omega)|(apply zU;omega)|(apply zP;omega;intros)|(apply zQ;omega;intros)|apply zR);cbv))
 ·refine .one cA rfl rfl ?_
  cbv
  (repeat'((first|(apply zS;kernel_rfl)|(apply zD;decide +kernel)|(apply zE;decide +kernel)|(apply zF;decide +kernel)|(apply zL;decide +kernel)|(apply zM;decide +kernel)|(apply zN;intros)|(apply zO;intros)|(apply zT;omega)|(apply zU;omega)|(apply zP;omega;intros)|(apply zQ;omega;intros)|apply zR);cbv))
  exact ⟨hQ _⟩
 refine .one cMc (cons_pure p3 rfl) rfl ?_
 cbv
 (repeat'((first|(apply zS;kernel_rfl)|(apply zD;decide +kernel)|(apply zE;decide +kernel)|(apply zF;decide +kernel)|(apply zL;decide +kernel)|(apply zM;decide +kernel)|(apply zN;intros)|(apply zO;intros)|(apply zT;omega)|(apply zU;omega)|(apply zP;omega;intros)|(apply zQ;omega;intros)|apply zR);cbv))
 refine BinK.gtr ?_ ?_ <;> intro h3 <;> cbv <;> (repeat'((first|(apply zS;kernel_rfl)|(apply zD;decide +kernel)|(apply zE;decide +kernel)|(apply zF;decide +kernel)|(apply zL;decide +kernel)|(apply zM;decide +kernel)|(apply zN;intros)|(apply zO;intros)|(apply zT;omega)|(apply zU;omega)|(apply zP;omega;intros)|(apply zQ;omega;intros)|apply zR);cbv))
 ·refine .one cA rfl rfl ?_
  cbv
  (repeat'((first|(apply zS;kernel_rfl)|(apply zD;decide +kernel)|(apply zE;decide +kernel)|(apply zF;decide +kernel)|(apply zL;decide +kernel)|(apply zM;decide +kernel)|(apply zN;intros)|(apply zO;intros)|(apply zT;omega)|(apply zU;omega)|(apply zP;omega;intros)|(apply zQ;omega;intros)|apply zR);cbv))
  exact ⟨hQ _⟩
 refine .one cMd (cons_pure p4 rfl) rfl ?_
 cbv
 (repeat'((first|(apply zS;kernel_rfl)|(apply zD;decide +kernel)|(apply zE;decide +kernel)|(apply zF;decide +kernel)|(apply zL;decide +kernel)|(apply zM;decide +kernel)|(apply zN;intros)|(apply zO;intros)|(apply zT;omega)|(apply zU;omega)|(apply zP;omega;intros)|(apply zQ;omega;intros)|apply zR);cbv))
 refine BinK.gtr ?_ ?_ <;> intro h4 <;> cbv <;> (repeat'((first|(apply zS;kernel_rfl)|(apply zD;decide +kernel)|(apply zE;decide +kernel)|(apply zF;decide +kernel)|(apply zL;decide +kernel)|(apply zM;decide +kernel)|(apply zN;intros)|(apply zO;intros)|(apply zT;omega)|(apply zU;omega)|(apply zP;omega;intros)|(apply zQ;omega;intros)|apply zR);cbv))
 ·refine .one cA rfl rfl ?_
  cbv
  (repeat'((first|(apply zS;kernel_rfl)|(apply zD;decide +kernel)|(apply zE;decide +kernel)|(apply zF;decide +kernel)|(apply zL;decide +kernel)|(apply zM;decide +kernel)|(apply zN;intros)|(apply zO;intros)|(apply zT;omega)|(apply zU;omega)|(apply zP;omega;intros)|(apply zQ;omega;intros)|apply zR);cbv))
  exact ⟨hQ _⟩
 obtain ⟨c1,c2,c3,c4,c5,c6,c7,c8⟩ := main h1 h2 h3 h4
 clear main cMa cMb cMc cMd
 refine .one c1 (cons_pure p1 (cons_pure p2 rfl)) rfl ?_
 cbv
 (repeat'((first|(apply zS;kernel_rfl)|(apply zD;decide +kernel)|(apply zE;decide +kernel)|(apply zF;decide +kernel)|(apply zL;decide +kernel)|(apply zM;decide +kernel)|(apply zN;intros)|(apply zO;intros)|(apply zT;omega)|(apply zU;omega)|(apply zP;omega;intros)|(apply zQ;omega;intros)|apply zR);cbv))
 refine .one c2 (cons_pure p1 (cons_pure p2 rfl)) rfl ?_
 cbv
 (repeat'((first|(apply zS;kernel_rfl)|(apply zD;decide +kernel)|(apply zE;decide +kernel)|(apply zF;decide +kernel)|(apply zL;decide +kernel)|(apply zM;decide +kernel)|(apply zN;intros)|(apply zO;intros)|(apply zT;omega)|(apply zU;omega)|(apply zP;omega;intros)|(apply zQ;omega;intros)|apply zR);cbv))
 refine beq14 ?_
 cbv
 (repeat'((first|(apply zS;kernel_rfl)|(apply zD;decide +kernel)|(apply zE;decide +kernel)|(apply zF;decide +kernel)|(apply zL;decide +kernel)|(apply zM;decide +kernel)|(apply zN;intros)|(apply zO;intros)|(apply zT;omega)|(apply zU;omega)|(apply zP;omega;intros)|(apply zQ;omega;intros)|apply zR);cbv))
 refine .one c3 (cons_pure p1 (cons_pure p1 rfl)) rfl ?_
 cbv
 (repeat'((first|(apply zS;kernel_rfl)|(apply zD;decide +kernel)|(apply zE;decide +kernel)|(apply zF;decide +kernel)|(apply zL;decide +kernel)|(apply zM;decide +kernel)|(apply zN;intros)|(apply zO;intros)|(apply zT;omega)|(apply zU;omega)|(apply zP;omega;intros)|(apply zQ;omega;intros)|apply zR);cbv))
 refine .one c4 (cons_pure p5 (cons_pure p6 rfl)) rfl ?_
 cbv
 (repeat'((first|(apply zS;kernel_rfl)|(apply zD;decide +kernel)|(apply zE;decide +kernel)|(apply zF;decide +kernel)|(apply zL;decide +kernel)|(apply zM;decide +kernel)|(apply zN;intros)|(apply zO;intros)|(apply zT;omega)|(apply zU;omega)|(apply zP;omega;intros)|(apply zQ;omega;intros)|apply zR);cbv))
 refine .one c5 (cons_pure p5 (cons_pure p6 rfl)) rfl ?_
 cbv
 (repeat'((first|(apply zS;kernel_rfl)|(apply zD;decide +kernel)|(apply zE;decide +kernel)|(apply zF;decide +kernel)|(apply zL;decide +kernel)|(apply zM;decide +kernel)|(apply zN;intros)|(apply zO;intros)|(apply zT;omega)|(apply zU;omega)|(apply zP;omega;intros)|(apply zQ;omega;intros)|apply zR);cbv))
 refine beq14 ?_
 cbv
 (repeat'((first|(apply zS;kernel_rfl)|(apply zD;decide +kernel)|(apply zE;decide +kernel)|(apply zF;decide +kernel)|(apply zL;decide +kernel)|(apply zM;decide +kernel)|(apply zN;intros)|(apply zO;intros)|(apply zT;omega)|(apply zU;omega)|(apply zP;omega;intros)|(apply zQ;omega;intros)|apply zR);cbv))
 refine .one c6 (cons_pure p3 (cons_pure p4 rfl)) rfl ?_
 cbv
 (repeat'((first|(apply zS;kernel_rfl)|(apply zD;decide +kernel)|(apply zE;decide +kernel)|(apply zF;decide +kernel)|(apply zL;decide +kernel)|(apply zM;decide +kernel)|(apply zN;intros)|(apply zO;intros)|(apply zT;omega)|(apply zU;omega)|(apply zP;omega;intros)|(apply zQ;omega;intros)|apply zR);cbv))
 refine .one c7 (cons_pure p3 (cons_pure p4 rfl)) rfl ?_
 cbv
 (repeat'((first|(apply zS;kernel_rfl)|(apply zD;decide +kernel)|(apply zE;decide +kernel)|(apply zF;decide +kernel)|(apply zL;decide +kernel)|(apply zM;decide +kernel)|(apply zN;intros)|(apply zO;intros)|(apply zT;omega)|(apply zU;omega)|(apply zP;omega;intros)|(apply zQ;omega;intros)|apply zR);cbv))
 refine beq14 ?_
 cbv
 (repeat'((first|(apply zS;kernel_rfl)|(apply zD;decide +kernel)|(apply zE;decide +kernel)|(apply zF;decide +kernel)|(apply zL;decide +kernel)|(apply zM;decide +kernel)|(apply zN;intros)|(apply zO;intros)|(apply zT;omega)|(apply zU;omega)|(apply zP;omega;intros)|(apply zQ;omega;intros)|apply zR);cbv))
 refine .one c8 (cons_pure p4 (cons_pure p4 rfl)) rfl ?_
 cbv
 (repeat'((first|(apply zS;kernel_rfl)|(apply zD;decide +kernel)|(apply zE;decide +kernel)|(apply zF;decide +kernel)|(apply zL;decide +kernel)|(apply zM;decide +kernel)|(apply zN;intros)|(apply zO;intros)|(apply zT;omega)|(apply zU;omega)|(apply zP;omega;intros)|(apply zQ;omega;intros)|apply zR);cbv))
 refine .one cA rfl rfl ?_
 cbv
 (repeat'((first|(apply zS;kernel_rfl)|(apply zD;decide +kernel)|(apply zE;decide +kernel)|(apply zF;decide +kernel)|(apply zL;decide +kernel)|(apply zM;decide +kernel)|(apply zN;intros)|(apply zO;intros)|(apply zT;omega)|(apply zU;omega)|(apply zP;omega;intros)|(apply zQ;omega;intros)|apply zR);cbv))
 exact ⟨hQ _⟩
mutual
def subsE : Ex7 -> List Ex7
 | .mk k n nm hs ts ls ks => .mk k n nm hs ts ls ks :: subsEL ks
def subsEL : List Ex7 -> List Ex7
 | [] => []
 | t :: r => subsE t ++ subsEL r
end
mutual
theorem subs_len : ∀ e : Ex7,(subsE e).length = countE e
 | .mk k n nm hs ts ls ks => by
  have := subsL_len ks
  simp only [subsE,countE,List.length_cons]
  omega
theorem subsL_len : ∀ ks : List Ex7,(subsEL ks).length = countEL ks
 | [] => rfl
 | t :: r => by
  have := subs_len t
  have := subsL_len r
  simp only [subsEL,countEL,List.length_append]
  omega
end
mutual
theorem at_subs : ∀ (e : Ex7) (j : Nat),atE e (j + 1) = (subsE e)[j]?
 | .mk k n nm hs ts ls ks,0 => by simp [atE,subsE]
 | .mk k n nm hs ts ls ks,j + 1 => by
  simp only [atE,subsE,List.getElem?_cons_succ]
  exact atL_subs ks j
theorem atL_subs : ∀ (ks : List Ex7) (j : Nat),atEL ks j = (subsEL ks)[j]?
 | [],j => by simp [atEL,subsEL]
 | t :: r,j => by
  simp only [atEL,subsEL]
  have h1 := subs_len t
  split
  ·rw [at_subs t j,List.getElem?_append_left (by omega)]
  ·rw [atL_subs r (j - countE t),List.getElem?_append_right (by omega),h1]
end
def ownN : Ex7 -> Nat
 | .mk _ _ _ _ ts _ _ => 1 + nodesL ts
def sumN14 (l : List Ex7) : Nat := (l.map ownN).sum
theorem sumN14_app (a b : List Ex7) : sumN14 (a ++ b) = sumN14 a + sumN14 b := by simp [sumN14]
mutual
theorem sum_subs : ∀ e : Ex7,sumN14 (subsE e) = nodesE e
 | .mk k n nm hs ts ls ks => by
  have := sum_subsL ks
  simp only [sumN14] at this
  simp only [subsE,sumN14,List.map_cons,List.sum_cons,ownN,nodesE,this]
theorem sum_subsL : ∀ ks : List Ex7,sumN14 (subsEL ks) = nodesEL ks
 | [] => rfl
 | t :: r => by
  simp only [subsEL,nodesEL]
  rw [sumN14_app,sum_subs t,sum_subsL r]
end
mutual
theorem subs_all : ∀ e : Ex7,∀ x ∈ subsE e,(okE e -> okE x) ∧ (rightE e = true -> rightE x = true) ∧ nodesE x ≤ nodesE e ∧ countE x ≤ countE e
 | .mk k n nm hs ts ls ks,x,hx => by
  simp only [subsE,List.mem_cons] at hx
  rcases hx with rfl | hx
  ·exact ⟨id,id,Nat.le_refl _,Nat.le_refl _⟩
  ·obtain ⟨h1,h2,h3,h4⟩ := subsL_all ks x hx
   refine ⟨fun h => h1 h.2.2.2,fun h => h2 ?_,by simp only [nodesE];omega,by simp only [countE];omega⟩
   simp only [rightE,Bool.and_eq_true] at h
   exact h.2
theorem subsL_all : ∀ ks : List Ex7,∀ x ∈ subsEL ks,(okE.okL ks -> okE x) ∧ (rightEL ks = true -> rightE x = true) ∧ nodesE x ≤ nodesEL ks ∧ countE x ≤ countEL ks
 | [],x,hx => by simp [subsEL] at hx
 | t :: r,x,hx => by
  simp only [subsEL,List.mem_append] at hx
  rcases hx with hx | hx
  ·obtain ⟨h1,h2,h3,h4⟩ := subs_all t x hx
   refine ⟨fun h => h1 h.1,fun h => h2 ?_,by simp only [nodesEL];omega,by simp only [countEL];omega⟩
   simp only [rightEL,Bool.and_eq_true] at h
   exact h.1
  ·obtain ⟨h1,h2,h3,h4⟩ := subsL_all r x hx
   refine ⟨fun h => h1 h.2,fun h => h2 ?_,by simp only [nodesEL];omega,by simp only [countEL];omega⟩
   simp only [rightEL,Bool.and_eq_true] at h
   exact h.2
end
theorem sub_take {l : List Ex7} {i : Nat} {t : Ex7} (h : l[i]? = some t) : sumN14 (l.take (i + 1)) = sumN14 (l.take i) + ownN t := by
 rw [ex_take h,sumN14_app]
 simp [sumN14]
theorem parts14_run (P : ExpPk) (e : Ex7) (ho : okE e) (hz : szE e ≤ 1048576) (Q : D -> H -> Prop) (hQ : ∀ h',Q (.raw (.bool true)) h') : wfun TT 5 [exD e] [] Q := by
 have cA := P.awake
 have hml := muchE_le e
 obtain ⟨M,hM0,hM⟩ : ∃ M : Int,0 ≤ M ∧ M.toNat = muchE e := ⟨((muchE e : Nat) : Int),by omega,by omega⟩
 have cM := muchE_cp e ho hz M hM0 hM
 obtain ⟨nn,hnn0,hnn⟩ : ∃ z : Int,0 ≤ z ∧ z.toNat = nodesE e := ⟨((nodesE e : Nat) : Int),by omega,by omega⟩
 obtain ⟨cc,hcc0,hcc⟩ : ∃ z : Int,0 ≤ z ∧ z.toNat = countE e := ⟨((countE e : Nat) : Int),by omega,by omega⟩
 have hsl := subs_len e
 have hss := sum_subs e
 have hcn := count_nodes e
 have main : M ≤ 400 -> nodesE e ≤ 400 ∧ CP (TT ()) 10 [exD e] (· = .raw (.bool (rightE e))) ∧ CP (TT ()) 16 [exD e] (· = .raw (.int .i64 cc)) ∧ CP (TT ()) 12 [exD e] (· = .raw (.int .i64 nn)) ∧
   (∀ j : Int,0 ≤ j -> j ≤ 1000 -> CP (TT ()) 8 [exD e,.raw (.int .i64 j)] (· = atP (atE e j.toNat))) := fun h => by
  have hn := muchE_nodes e (by omega)
  have c3 := P.count e ho (by omega)
  have c4 := P.nodes e ho (by omega)
  rw [show ((countE e : Nat) : Int) = cc by omega] at c3
  rw [show ((nodesE e : Nat) : Int) = nn by omega] at c4
  exact ⟨by omega,P.right e ho (by omega),c3,c4,fun j h0 h1 => P.at_ e j ho (by omega) (by omega)⟩
 have part : M ≤ 400 -> rightE e = true -> ∀ j : Int,1 ≤ j -> j ≤ cc -> ∃ x : Ex7,(subsE e)[j.toNat - 1]? = some x ∧ okE x ∧ nodesE x ≤ 400 ∧ ∃ nx cx : Int,0 ≤ nx ∧ nx ≤ nn ∧ 0 ≤ cx ∧ cx ≤ cc ∧
   CP (TT ()) 8 [exD e,.raw (.int .i64 j)] (· = .tup [exD x,.raw (.bool true)]) ∧ CP (TT ()) 10 [exD x] (· = .raw (.bool true)) ∧ CP (TT ()) 12 [exD x] (· = .raw (.int .i64 nx)) ∧ CP (TT ()) 16 [exD x] (· = .raw (.int .i64 cx)) := fun h hr j h1 h2 => by
  obtain ⟨hn,_,_,_,cAt⟩ := main h
  have hlt : j.toNat - 1 < (subsE e).length := by omega
  have hx := List.getElem?_eq_getElem hlt
  obtain ⟨x,hxe⟩ : ∃ x,x = (subsE e)[j.toNat - 1] := ⟨_,rfl⟩
  rw [← hxe] at hx
  obtain ⟨g1,g2,g3,g4⟩ := subs_all e x (List.mem_of_getElem? hx)
  have c1 := cAt j (by omega) (by omega)
  rw [show j.toNat = (j.toNat - 1) + 1 by omega,at_subs,hx] at c1
  have c2 := P.right x (g1 ho) (by omega)
  rw [g2 hr] at c2
  have c3 := P.nodes x (g1 ho) (by omega)
  have c4 := P.count x (g1 ho) (by omega)
  refine ⟨x,hx,g1 ho,by omega,((nodesE x : Nat) : Int),((countE x : Nat) : Int),by omega,by omega,by omega,by omega,?_,c2,c3,c4⟩
  simpa [atP] using c1
 have last : M ≤ 400 -> ∃ y : Ex7,CP (TT ()) 8 [exD e,.raw (.int .i64 (cc + 1))] (· = .tup [exD y,.raw (.bool false)]) ∧ CP (TT ()) 8 [exD e,.raw (.int .i64 0)] (· = .tup [exD y,.raw (.bool false)]) := fun h => by
  obtain ⟨hn,_,_,_,cAt⟩ := main h
  have c1 := cAt (cc + 1) (by omega) (by omega)
  have c2 := cAt 0 (by omega) (by omega)
  rw [show (cc + 1).toNat = countE e + 1 by omega,at_subs,List.getElem?_eq_none (by omega)] at c1
  exact ⟨ex0,by simpa [atP] using c1,by simpa [atP,atE] using c2⟩
 replace main : M ≤ 400 -> nn ≤ 400 ∧ CP (TT ()) 10 [exD e] (· = .raw (.bool (rightE e))) ∧ CP (TT ()) 16 [exD e] (· = .raw (.int .i64 cc)) ∧ CP (TT ()) 12 [exD e] (· = .raw (.int .i64 nn)) := fun h => by
  obtain ⟨h1,h2,h3,h4,_⟩ := main h
  exact ⟨by omega,h2,h3,h4⟩
 have hccn : cc ≤ nn := by omega
 have hp := ex_pure e
 have hsum : ∀ i z : Int,z.toNat = sumN14 ((subsE e).take (i.toNat - 1)) -> cc < i -> 0 ≤ z -> z = nn := fun i z h h1 h0 => by
  rw [List.take_of_length_le (by omega),hss] at h
  omega
 clear hss hcn hml hM hnn hsl hcc hz ho
 generalize subsE e = SE at part hsum
 generalize rightE e = bR at main part
 obtain ⟨k1,n1,m1,b1,T1,L1,K1,f1,i1,i2,i3⟩ := ex_node e
 rw [f1] at cM hp main part last ⊢
 clear f1
 cbv
 (repeat'((first|(apply zS;kernel_rfl)|(apply zD;decide +kernel)|(apply zE;decide +kernel)|(apply zF;decide +kernel)|(apply zL;decide +kernel)|(apply zM;decide +kernel)|(apply zN;intros)|(apply zO;intros)|(apply zT;omega)|(apply zU;omega)|(apply zP;omega;intros)|(apply zQ;omega;intros)|apply zR);cbv))
 refine .one cM (cons_pure hp rfl) rfl ?_
 cbv
 (repeat'((first|(apply zS;kernel_rfl)|(apply zD;decide +kernel)|(apply zE;decide +kernel)|(apply zF;decide +kernel)|(apply zL;decide +kernel)|(apply zM;decide +kernel)|(apply zN;intros)|(apply zO;intros)|(apply zT;omega)|(apply zU;omega)|(apply zP;omega;intros)|(apply zQ;omega;intros)|apply zR);cbv))
 refine BinK.gtr ?_ ?_ <;> intro h400 <;> cbv <;> (repeat'((first|(apply zS;kernel_rfl)|(apply zD;decide +kernel)|(apply zE;decide +kernel)|(apply zF;decide +kernel)|(apply zL;decide +kernel)|(apply zM;decide +kernel)|(apply zN;intros)|(apply zO;intros)|(apply zT;omega)|(apply zU;omega)|(apply zP;omega;intros)|(apply zQ;omega;intros)|apply zR);cbv))
 ·refine .one cA rfl rfl ?_
  cbv
  (repeat'((first|(apply zS;kernel_rfl)|(apply zD;decide +kernel)|(apply zE;decide +kernel)|(apply zF;decide +kernel)|(apply zL;decide +kernel)|(apply zM;decide +kernel)|(apply zN;intros)|(apply zO;intros)|(apply zT;omega)|(apply zU;omega)|(apply zP;omega;intros)|(apply zQ;omega;intros)|apply zR);cbv))
  exact ⟨hQ _⟩
 obtain ⟨hnb,c1,c2,c3⟩ := main h400
 have part := part h400
 obtain ⟨y,c4,c5⟩ := last h400
 have hpy := ex_pure y
 obtain ⟨k2,n2,m2,b2,T2,L2,K2,f2,_,_,_⟩ := ex_node y
 rw [f2] at c4 c5 hpy
 clear main last cM f2
 refine .one c1 (cons_pure hp rfl) rfl ?_
 rcases bR with _ | _
 ·cbv
  (repeat'((first|(apply zS;kernel_rfl)|(apply zD;decide +kernel)|(apply zE;decide +kernel)|(apply zF;decide +kernel)|(apply zL;decide +kernel)|(apply zM;decide +kernel)|(apply zN;intros)|(apply zO;intros)|(apply zT;omega)|(apply zU;omega)|(apply zP;omega;intros)|(apply zQ;omega;intros)|apply zR);cbv))
  refine .one cA rfl rfl ?_
  cbv
  (repeat'((first|(apply zS;kernel_rfl)|(apply zD;decide +kernel)|(apply zE;decide +kernel)|(apply zF;decide +kernel)|(apply zL;decide +kernel)|(apply zM;decide +kernel)|(apply zN;intros)|(apply zO;intros)|(apply zT;omega)|(apply zU;omega)|(apply zP;omega;intros)|(apply zQ;omega;intros)|apply zR);cbv))
  exact ⟨hQ _⟩
 have part := part rfl
 cbv
 (repeat'((first|(apply zS;kernel_rfl)|(apply zD;decide +kernel)|(apply zE;decide +kernel)|(apply zF;decide +kernel)|(apply zL;decide +kernel)|(apply zM;decide +kernel)|(apply zN;intros)|(apply zO;intros)|(apply zT;omega)|(apply zU;omega)|(apply zP;omega;intros)|(apply zQ;omega;intros)|apply zR);cbv))
 refine .one c2 (cons_pure hp rfl) rfl ?_
 cbv
 (repeat'((first|(apply zS;kernel_rfl)|(apply zD;decide +kernel)|(apply zE;decide +kernel)|(apply zF;decide +kernel)|(apply zL;decide +kernel)|(apply zM;decide +kernel)|(apply zN;intros)|(apply zO;intros)|(apply zT;omega)|(apply zU;omega)|(apply zP;omega;intros)|(apply zQ;omega;intros)|apply zR);cbv))
 refine LoopK.put (X := Int × Int) (fun x => [(4,.raw (.int .i64 x.2)),(5,.raw (.int .i64 x.1))]) (fun _ => []) (fun x => cc.toNat + 1 - x.1.toNat)
  (fun x => 1 ≤ x.1 ∧ x.1 ≤ cc + 1 ∧ 0 ≤ x.2 ∧ x.2.toNat = sumN14 (SE.take (x.1.toNat - 1)) ∧ x.2 ≤ 1000000 * x.1) (1,0) ⟨by simp,by simp only;omega,by simp,by simp [sumN14],by simp⟩ rfl rfl ?_
 rintro ⟨i,z⟩ N ⟨h1,hi,hz0,hz,hzb⟩ hN
 simp only at h1 hi hz0 hz hzb hN ⊢
 cbv
 (repeat'((first|(apply zS;kernel_rfl)|(apply zD;decide +kernel)|(apply zE;decide +kernel)|(apply zF;decide +kernel)|(apply zL;decide +kernel)|(apply zM;decide +kernel)|(apply zN;intros)|(apply zO;intros)|(apply zT;omega)|(apply zU;omega)|(apply zP;omega;intros)|(apply zQ;omega;intros)|apply zR);cbv))
 refine BinK.leq ?_ ?_ <;> intro hlt <;> cbv <;> (repeat'((first|(apply zS;kernel_rfl)|(apply zD;decide +kernel)|(apply zE;decide +kernel)|(apply zF;decide +kernel)|(apply zL;decide +kernel)|(apply zM;decide +kernel)|(apply zN;intros)|(apply zO;intros)|(apply zT;omega)|(apply zU;omega)|(apply zP;omega;intros)|(apply zQ;omega;intros)|apply zR);cbv))
 ·obtain ⟨x,hx,hxo,hxn,nx,cx,g1,g2,g3,g4,cX1,cX2,cX3,cX4⟩ := part i h1 hlt
  have hpx := ex_pure x
  have hst := sub_take hx
  obtain ⟨k3,n3,m3,b3,ts,ls,ks⟩ := x
  have hTl := tys_len ts
  have hTi := tys_idb ts
  have hTat := fun i => tys_at (ks := ts) (i := i)
  have hto := hxo.2.1
  have hLi := strs_idb ls
  have hKi := exs_idb ks
  simp only [nodesE] at hxn
  have hl1 := nodesL_len ts
  have hnext : ∀ s r : Int,0 ≤ s -> s.toNat = sumN14 (SE.take (i.toNat - 1)) + 1 + nodesL ts -> r = i + 1 -> s ≤ z + 1000 -> s.toNat = sumN14 (SE.take (r.toNat - 1)) ∧ s ≤ 1000000 * r := fun s r h0 hs hr hb => by
   rw [show r.toNat - 1 = (i.toNat - 1) + 1 by omega,hst]
   simp only [ownN]
   omega
  simp only [exD] at cX1 cX2 cX3 cX4 hpx
  clear part hsum hx hst hxo hQ
  generalize ls.map strD = LS at cX1 cX2 cX3 cX4 hpx hLi
  generalize tysD ts = TS at cX1 cX2 cX3 cX4 hpx hTl hTi hTat
  generalize exsD ks = KS at cX1 cX2 cX3 cX4 hpx hKi
  have hpt : pureD (.tup [.agg [.raw (.int .i64 k3),.raw (.int .i64 n3),.raw (.string m3),.raw (.bool b3),.sl none 5 TS,.sl none 1 LS,.sl none 7 KS],.raw (.bool true)]) = some (.tup [.agg [.raw (.int .i64 k3),.raw (.int .i64 n3),.raw (.string m3),.raw (.bool b3),.sl none 5 TS,.sl none 1 LS,.sl none 7 KS],.raw (.bool true)]) := tup_pure (cons_pure hpx rfl)
  refine .one cX1 (cons_pure hp rfl) hpt ?_
  cbv
  (repeat'((first|(apply zS;kernel_rfl)|(apply zD;decide +kernel)|(apply zE;decide +kernel)|(apply zF;decide +kernel)|(apply zL;decide +kernel)|(apply zM;decide +kernel)|(apply zN;intros)|(apply zO;intros)|(apply zT;omega)|(apply zU;omega)|(apply zP;omega;intros)|(apply zQ;omega;intros)|apply zR);cbv))
  refine .one cX2 (cons_pure hpx rfl) rfl ?_
  cbv
  (repeat'((first|(apply zS;kernel_rfl)|(apply zD;decide +kernel)|(apply zE;decide +kernel)|(apply zF;decide +kernel)|(apply zL;decide +kernel)|(apply zM;decide +kernel)|(apply zN;intros)|(apply zO;intros)|(apply zT;omega)|(apply zU;omega)|(apply zP;omega;intros)|(apply zQ;omega;intros)|apply zR);cbv))
  refine .one cX3 (cons_pure hpx rfl) rfl ?_
  cbv
  (repeat'((first|(apply zS;kernel_rfl)|(apply zD;decide +kernel)|(apply zE;decide +kernel)|(apply zF;decide +kernel)|(apply zL;decide +kernel)|(apply zM;decide +kernel)|(apply zN;intros)|(apply zO;intros)|(apply zT;omega)|(apply zU;omega)|(apply zP;omega;intros)|(apply zQ;omega;intros)|apply zR);cbv))
  refine .one c3 (cons_pure hp rfl) rfl ?_
  cbv
  (repeat'((first|(apply zS;kernel_rfl)|(apply zD;decide +kernel)|(apply zE;decide +kernel)|(apply zF;decide +kernel)|(apply zL;decide +kernel)|(apply zM;decide +kernel)|(apply zN;intros)|(apply zO;intros)|(apply zT;omega)|(apply zU;omega)|(apply zP;omega;intros)|(apply zQ;omega;intros)|apply zR);cbv))
  try (refine BinK.gtrF (by omega) ?_;cbv;(repeat'((first|(apply zS;kernel_rfl)|(apply zD;decide +kernel)|(apply zE;decide +kernel)|(apply zF;decide +kernel)|(apply zL;decide +kernel)|(apply zM;decide +kernel)|(apply zN;intros)|(apply zO;intros)|(apply zT;omega)|(apply zU;omega)|(apply zP;omega;intros)|(apply zQ;omega;intros)|apply zR);cbv)))
  refine .one cX4 (cons_pure hpx rfl) rfl ?_
  cbv
  (repeat'((first|(apply zS;kernel_rfl)|(apply zD;decide +kernel)|(apply zE;decide +kernel)|(apply zF;decide +kernel)|(apply zL;decide +kernel)|(apply zM;decide +kernel)|(apply zN;intros)|(apply zO;intros)|(apply zT;omega)|(apply zU;omega)|(apply zP;omega;intros)|(apply zQ;omega;intros)|apply zR);cbv))
  try (refine BinK.gtrF (by omega) ?_;cbv;(repeat'((first|(apply zS;kernel_rfl)|(apply zD;decide +kernel)|(apply zE;decide +kernel)|(apply zF;decide +kernel)|(apply zL;decide +kernel)|(apply zM;decide +kernel)|(apply zN;intros)|(apply zO;intros)|(apply zT;omega)|(apply zU;omega)|(apply zP;omega;intros)|(apply zQ;omega;intros)|apply zR);cbv)))
  rename_i s0 hs0
  refine LoopK.put (X := Int × Int) (fun x => [(4,.raw (.int .i64 x.2)),(8,.raw (.int .i64 x.1))]) (fun _ => []) (fun x => ts.length - x.1.toNat)
   (fun x => 0 ≤ x.1 ∧ x.1.toNat ≤ ts.length ∧ 0 ≤ x.2 ∧ x.2.toNat = sumN14 (SE.take (i.toNat - 1)) + 1 + nodesL (ts.take x.1.toNat)) (0,s0) ⟨by simp,by simp,by simp only;omega,by simp [nodesL];omega⟩ rfl rfl ?_
  rintro ⟨q,s⟩ N' ⟨q0,qi,s0',hs⟩ hN'
  simp only at q0 qi s0' hs hN' ⊢
  have hpart := nodesL_le ts q.toNat
  cbv
  (repeat'((first|(apply zS;kernel_rfl)|(apply zD;decide +kernel)|(apply zE;decide +kernel)|(apply zF;decide +kernel)|(apply zL;decide +kernel)|(apply zM;decide +kernel)|(apply zN;intros)|(apply zO;intros)|(apply zT;omega)|(apply zU;omega)|(apply zP;omega;intros)|(apply zQ;omega;intros)|apply zR);cbv))
  refine BinK.lss ?_ ?_ <;> intro qlt <;> cbv <;> (repeat'((first|(apply zS;kernel_rfl)|(apply zD;decide +kernel)|(apply zE;decide +kernel)|(apply zF;decide +kernel)|(apply zL;decide +kernel)|(apply zM;decide +kernel)|(apply zN;intros)|(apply zO;intros)|(apply zT;omega)|(apply zU;omega)|(apply zP;omega;intros)|(apply zQ;omega;intros)|apply zR);cbv))
  ·obtain ⟨t,ht,hT⟩ := hTat q.toNat (by omega)
   have hmem := List.mem_of_getElem? ht
   have hnt := nodesL_mem hmem
   have cN := nodesq_cp t (okL_get hto t hmem) (by omega)
   obtain ⟨E,hE0,hEb,hE⟩ : ∃ M : Int,0 ≤ M ∧ M ≤ 1000000 ∧ M.toNat = nodesT t := ⟨((nodesT t : Nat) : Int),by omega,by omega,by omega⟩
   rw [show ((nodesT t : Nat) : Int) = E by omega] at cN
   have hptt := ty_pure t
   have hs1 := nodesL_step14 ht
   have hgo : ∀ u r : Int,u = s + E -> r = q + 1 -> 0 ≤ u ∧ u.toNat = sumN14 (SE.take (i.toNat - 1)) + 1 + nodesL (ts.take r.toNat) := fun u r hu hr => by
    rw [show r.toNat = q.toNat + 1 by omega,hs1]
    omega
   have hsb : s ≤ 1001000000 := by omega
   obtain ⟨k0,n0,m0,L0,K0,f0,_,_⟩ := c4_node t
   rw [f0] at cN hptt hT
   clear f0 hs1 hE hs hnext hnt
   refine IdxK.intro q0 hT ?_
   cbv
   (repeat'((first|(apply zS;kernel_rfl)|(apply zD;decide +kernel)|(apply zE;decide +kernel)|(apply zF;decide +kernel)|(apply zL;decide +kernel)|(apply zM;decide +kernel)|(apply zN;intros)|(apply zO;intros)|(apply zT;omega)|(apply zU;omega)|(apply zP;omega;intros)|(apply zQ;omega;intros)|apply zR);cbv))
   refine .one cN (cons_pure hptt rfl) rfl ?_
   cbv
   (repeat'((first|(apply zS;kernel_rfl)|(apply zD;decide +kernel)|(apply zE;decide +kernel)|(apply zF;decide +kernel)|(apply zL;decide +kernel)|(apply zM;decide +kernel)|(apply zN;intros)|(apply zO;intros)|(apply zT;omega)|(apply zU;omega)|(apply zP;omega;intros)|(apply zQ;omega;intros)|apply zR);cbv))
   rename_i u hu r hr
   have hgo := hgo u r hu hr
   exact RoundK.next (r,u) ⟨by omega,by omega,hgo.1,hgo.2⟩ (by omega) rfl rfl
  ·have hall : ts.take q.toNat = ts := List.take_of_length_le (by omega)
   rw [hall] at hs
   rename_i r hr
   have hnext := hnext s r s0' hs hr (by omega)
   refine RoundK.forget (r,s) ⟨by omega,by omega,s0',hnext.1,hnext.2⟩ (by omega) rfl rfl ?_ ?_
   ·simp [idbL,idb,i1,i2,i3]
   ·simp [cellIdb,idbL,idb,i1,i2,i3,hTi,hLi,hKi]
 ·rename_i w hw
  have hzn := hsum i z hz (by omega) hz0
  clear part
  subst hzn
  obtain rfl : w = cc + 1 := by omega
  refine .one c4 (cons_pure hp rfl) (tup_pure (cons_pure hpy rfl)) ?_
  cbv
  (repeat'((first|(apply zS;kernel_rfl)|(apply zD;decide +kernel)|(apply zE;decide +kernel)|(apply zF;decide +kernel)|(apply zL;decide +kernel)|(apply zM;decide +kernel)|(apply zN;intros)|(apply zO;intros)|(apply zT;omega)|(apply zU;omega)|(apply zP;omega;intros)|(apply zQ;omega;intros)|apply zR);cbv))
  refine .one c5 (cons_pure hp rfl) (tup_pure (cons_pure hpy rfl)) ?_
  cbv
  (repeat'((first|(apply zS;kernel_rfl)|(apply zD;decide +kernel)|(apply zE;decide +kernel)|(apply zF;decide +kernel)|(apply zL;decide +kernel)|(apply zM;decide +kernel)|(apply zN;intros)|(apply zO;intros)|(apply zT;omega)|(apply zU;omega)|(apply zP;omega;intros)|(apply zQ;omega;intros)|apply zR);cbv))
  refine .one c3 (cons_pure hp rfl) rfl ?_
  cbv
  (repeat'((first|(apply zS;kernel_rfl)|(apply zD;decide +kernel)|(apply zE;decide +kernel)|(apply zF;decide +kernel)|(apply zL;decide +kernel)|(apply zM;decide +kernel)|(apply zN;intros)|(apply zO;intros)|(apply zT;omega)|(apply zU;omega)|(apply zP;omega;intros)|(apply zQ;omega;intros)|apply zR);cbv))
  try (refine BinK.eqlT rfl ?_;cbv;(repeat'((first|(apply zS;kernel_rfl)|(apply zD;decide +kernel)|(apply zE;decide +kernel)|(apply zF;decide +kernel)|(apply zL;decide +kernel)|(apply zM;decide +kernel)|(apply zN;intros)|(apply zO;intros)|(apply zT;omega)|(apply zU;omega)|(apply zP;omega;intros)|(apply zQ;omega;intros)|apply zR);cbv)))
  refine .one cA rfl rfl ?_
  cbv
  (repeat'((first|(apply zS;kernel_rfl)|(apply zD;decide +kernel)|(apply zE;decide +kernel)|(apply zF;decide +kernel)|(apply zL;decide +kernel)|(apply zM;decide +kernel)|(apply zN;intros)|(apply zO;intros)|(apply zT;omega)|(apply zU;omega)|(apply zP;omega;intros)|(apply zQ;omega;intros)|apply zR);cbv))
  exact ⟨hQ _⟩
end Go.Proofs.Ytglefhgcfijiaaa

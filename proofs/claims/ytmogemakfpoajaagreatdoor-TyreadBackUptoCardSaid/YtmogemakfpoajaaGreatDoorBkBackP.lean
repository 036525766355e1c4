/- TyreadBack, of every type of bulk at most 1048576, and any text: the law answers true: the text of a right type without seals that is not too deep is read as that type; the text of what is read is read as the same. Condition: the three tables of the packages strconv and math/bits hold what their text lays (tied). -/
import Derived.SevenTiedAt
import Derived.LaidLaws
import Derived.LaidSub
import Derived.Lay
import Derived.MakeChecks
import Derived.Lib.LaidTab
import Derived.JoinedCond
import Derived.Handed
import Derived.Test.YtmogemakfpoajaaGreatDoorCards
import Derived.Test.YtmogemakfpoajaaGreatDoorTie
import Derived.Test.YtmogemakfpoajaaGreatDoorNv
import Derived.Test.YtmogemakfpoajaaGreatDoorNr
import Derived.Test.YtmogemakfpoajaaGreatDoorNu
import Derived.Test.YtmogemakfpoajaaGreatDoorMe
import Derived.Test.YtmogemakfpoajaaGreatDoorNs
set_option linter.unusedSimpArgs false
set_option linter.unusedVariables false
set_option maxRecDepth 1000000
set_option maxHeartbeats 40000000
namespace Go.Proofs.YtmogemakfpoajaaGreatDoor
open Go.RowKit Pv
theorem muchb_cp (a : Ty5) (ha : okT a) (hz : szT a ≤ 1048576) : CP (TT ()) 4 [tyD a] (· = .raw (.int .i64 (much a))) :=
 cp_raw (callable_at Tryz.func4 (by kernel_rfl) rfl) fun S w args r => by
  obtain ⟨v,rfl,h⟩ := rdL_one r
  obtain ⟨v0,v1,v2,v3,v4,rfl,hT⟩ := ty_in a ha h
  exact rmuch_any _ a _ _ _ _ _ w (Nat.le_refl _) hz hT
theorem rightr_cp (t : Ty5) (ho : okT t) : CP (TT ()) 6 [tyD t] (· = .raw (.bool (rightT varB risingB t))) :=
 cp_raw (callable_at Tryz.func6 (by kernel_rfl) rfl) fun S w args r => by
  obtain ⟨v,rfl,h⟩ := rdL_one r
  obtain ⟨v0,v1,v2,v3,v4,rfl,hT⟩ := ty_in t ho h
  exact rright_all t v0 v1 v2 v3 v4 w hT
theorem hasr_cp (t : Ty5) (kd : Int) (ho : okT t) : CP (TT ()) 7 [tyD t,.raw (.int .i64 kd)] (· = .raw (.bool (hasT kd t))) :=
 cp_raw (callable_at Tryz.func7 (by kernel_rfl) rfl) fun S w args r => by
  obtain ⟨v,v',rfl,h,h'⟩ := rdL_two r
  obtain ⟨v0,v1,v2,v3,v4,rfl,hT⟩ := ty_in t ho h
  simp only [Pv.Rd] at h'
  subst h'
  exact rhas_any kd _ t v0 v1 v2 v3 v4 w (Nat.le_refl _) hT
theorem depthr_cp (t : Ty5) (ho : okT t) (hn : nodesT t ≤ 1000000) : CP (TT ()) 8 [tyD t] (· = .raw (.int .i64 (depthT t))) :=
 cp_raw (callable_at Tryz.func8 (by kernel_rfl) rfl) fun S w args r => by
  obtain ⟨v,rfl,h⟩ := rdL_one r
  obtain ⟨v0,v1,v2,v3,v4,rfl,hT⟩ := ty_in t ho h
  exact rdepth_any _ t v0 v1 v2 v3 v4 w (Nat.le_refl _) hn hT
theorem show_cpF {t : Ty5} (ho : okT t) (h : Fit 64 t) (hk : (tkl t).length ≤ 5000) : ∃ w,CP (TT ()) 10 [tyD t] (· = .raw (.string w)) ∧ CP (TT ()) 9 [.raw (.string w)] (· = .tup [tyD t,.raw .nilIface]) := by
 have hl := fit_shown h hk
 have e : shT t = showT t := by unfold shT;rw [if_pos h.right]
 refine ⟨⟨(showT t).toArray⟩,?_,(shown_cp ho h hk).2⟩
 rw [← e]
 exact showp_cp t ho (by rw [e];omega)
theorem back_run (t : Ty5) (s : ByteArray) (ho : okT t) (hz : szT t ≤ 1048576) (Q : D -> H -> Prop) (hQ : ∀ h',Q (.raw (.bool true)) h') : wfun TT 3 [tyD t,.raw (.string s)] [] Q := by
 have cA := awake_cp
 have cM := muchb_cp t ho hz
 have cR := rightr_cp t ho
 have cH := hasr_cp t 9 ho
 have cD : ((much t : Nat) : Int) ≤ 800 -> CP (TT ()) 8 [tyD t] (· = .raw (.int .i64 (depthT t))) := fun h => depthr_cp t ho (by have := much_nodes t (by omega);omega)
 have cS := sameq_cp t t ho ho
 rw [same_refl] at cS
 have main1 : ((much t : Nat) : Int) ≤ 800 -> rightT varB risingB t = true -> hasT 9 t = false -> ((depthT t : Nat) : Int) ≤ 64 -> ∃ w,CP (TT ()) 10 [tyD t] (· = .raw (.string w)) ∧ CP (TT ()) 9 [.raw (.string w)] (· = .tup [tyD t,.raw .nilIface]) := fun h1 h2 h3 h4 => by
  have hf := fit_of h2 h3 (by omega)
  exact show_cpF ho hf (tkl_few hf (by omega))
 have main2 : (s.size : Int) ≤ 2000 -> CP (TT ()) 9 [.raw (.string s)] (· = parseD (parseS s)) ∧ ∀ u to,parseS s = .ok u to -> CP (TT ()) 6 [tyD u] (· = .raw (.bool true)) ∧ CP (TT ()) 11 [tyD u,tyD u] (· = .raw (.bool true)) ∧ ∃ w,CP (TT ()) 10 [tyD u] (· = .raw (.string w)) ∧ CP (TT ()) 9 [.raw (.string w)] (· = .tup [tyD u,.raw .nilIface]) := fun h => by
  have hs : s.size ≤ 2000 := by omega
  refine ⟨parse_cp s hs,fun u to hu => ?_⟩
  obtain ⟨hf,hk⟩ := parse_fit hs hu
  have hou := parseQ_okT hs hu
  have c1 := rightr_cp u hou
  rw [hf.right] at c1
  have c2 := sameq_cp u u hou hou
  rw [same_refl] at c2
  exact ⟨c1,c2,show_cpF hou hf (by omega)⟩
 have pT := ty_pure t
 have p3 : pureD (.tup [tyD t,.raw .nilIface]) = some (.tup [tyD t,.raw .nilIface]) := parseD_pure (.ok t 0)
 clear hz ho
 generalize rightT varB risingB t = r at cR main1
 generalize hasT 9 t = h9 at cH main1
 obtain ⟨zd,hzd⟩ : ∃ z : Int,((depthT t : Nat) : Int) = z := ⟨_,rfl⟩
 rw [hzd] at cD main1
 obtain ⟨zm,hzm⟩ : ∃ z : Int,((much t : Nat) : Int) = z := ⟨_,rfl⟩
 rw [hzm] at cM cD main1
 obtain ⟨z,hzs⟩ : ∃ z : Int,(s.size : Int) = z := ⟨_,rfl⟩
 rw [hzs] at main2
 generalize hPS : parseS s = R at main2
 clear hPS hzd hzm
 obtain ⟨n1,m1,L1,K1,f1,_,_⟩ := ty_nodeR t
 rw [f1] at cM cR cH cD cS main1 pT p3 ⊢
 generalize (match t with | .mk k _ _ _ _ => k) = k1 at *
 cbv
 (repeat'((first|(apply zS;kernel_rfl)|(apply zD;decide +kernel)|(apply zE;decide +kernel)|(apply zF;decide +kernel)|(apply zL;decide +kernel)|(apply zM;decide +kernel)|(apply zN;intros)|(apply zO;intros)|(apply zT;omega)|(apply zU;omega)|(apply zP;omega;intros)|(apply zQ;omega;intros)|apply zR);cbv))
 refine .one cM (cons_pure pT rfl) rfl ?_
 cbv
 (repeat'((first|(apply zS;kernel_rfl)|(apply zD;decide +kernel)|(apply zE;decide +kernel)|(apply zF;decide +kernel)|(apply zL;decide +kernel)|(apply zM;decide +kernel)|(apply zN;intros)|(apply zO;intros)|(apply zT;omega)|(apply zU;omega)|(apply zP;omega;intros)|(apply zQ;omega;intros)|apply zR);cbv))
 refine BinK.gtr ?_ ?_ <;> intro h1 <;> cbv <;> (repeat'((first|(apply zS;kernel_rfl)|(apply zD;decide +kernel)|(apply zE;decide +kernel)|(apply zF;decide +kernel)|(apply zL;decide +kernel)|(apply zM;decide +kernel)|(apply zN;intros)|(apply zO;intros)|(apply zT;omega)|(apply zU;omega)|(apply zP;omega;intros)|(apply zQ;omega;intros)|apply zR);cbv))
 ·refine .one cA rfl rfl ?_
  cbv
  (repeat'((first|(apply zS;kernel_rfl)|(apply zD;decide +kernel)|(apply zE;decide +kernel)|(apply zF;decide +kernel)|(apply zL;decide +kernel)|(apply zM;decide +kernel)|(apply zN;intros)|(apply zO;intros)|(apply zT;omega)|(apply zU;omega)|(apply zP;omega;intros)|(apply zQ;omega;intros)|apply zR);cbv))
  exact ⟨hQ _⟩
 refine len_str hzs ?_
 cbv
 (repeat'((first|(apply zS;kernel_rfl)|(apply zD;decide +kernel)|(apply zE;decide +kernel)|(apply zF;decide +kernel)|(apply zL;decide +kernel)|(apply zM;decide +kernel)|(apply zN;intros)|(apply zO;intros)|(apply zT;omega)|(apply zU;omega)|(apply zP;omega;intros)|(apply zQ;omega;intros)|apply zR);cbv))
 refine BinK.gtr ?_ ?_ <;> intro h2 <;> cbv <;> (repeat'((first|(apply zS;kernel_rfl)|(apply zD;decide +kernel)|(apply zE;decide +kernel)|(apply zF;decide +kernel)|(apply zL;decide +kernel)|(apply zM;decide +kernel)|(apply zN;intros)|(apply zO;intros)|(apply zT;omega)|(apply zU;omega)|(apply zP;omega;intros)|(apply zQ;omega;intros)|apply zR);cbv))
 ·refine .one cA rfl rfl ?_
  cbv
  (repeat'((first|(apply zS;kernel_rfl)|(apply zD;decide +kernel)|(apply zE;decide +kernel)|(apply zF;decide +kernel)|(apply zL;decide +kernel)|(apply zM;decide +kernel)|(apply zN;intros)|(apply zO;intros)|(apply zT;omega)|(apply zU;omega)|(apply zP;omega;intros)|(apply zQ;omega;intros)|apply zR);cbv))
  exact ⟨hQ _⟩
 have cD := cD h1
 have main1 := main1 h1
 obtain ⟨c1,main2⟩ := main2 h2
 have p1 := parseD_pure R
 clear cM
 refine .one cR (cons_pure pT rfl) rfl ?_
 rcases r with _ | _
 ·cbv
  (repeat'((first|(apply zS;kernel_rfl)|(apply zD;decide +kernel)|(apply zE;decide +kernel)|(apply zF;decide +kernel)|(apply zL;decide +kernel)|(apply zM;decide +kernel)|(apply zN;intros)|(apply zO;intros)|(apply zT;omega)|(apply zU;omega)|(apply zP;omega;intros)|(apply zQ;omega;intros)|apply zR);cbv))
  clear cR cH cD cS main1 pT p3
  cases R with
  | bad e p =>
   refine .one c1 rfl p1 ?_
   cbv
   (repeat'((first|(apply zS;kernel_rfl)|(apply zD;decide +kernel)|(apply zE;decide +kernel)|(apply zF;decide +kernel)|(apply zL;decide +kernel)|(apply zM;decide +kernel)|(apply zN;intros)|(apply zO;intros)|(apply zT;omega)|(apply zU;omega)|(apply zP;omega;intros)|(apply zQ;omega;intros)|apply zR);cbv))
   refine BinK.someNe ?_
   cbv
   (repeat'((first|(apply zS;kernel_rfl)|(apply zD;decide +kernel)|(apply zE;decide +kernel)|(apply zF;decide +kernel)|(apply zL;decide +kernel)|(apply zM;decide +kernel)|(apply zN;intros)|(apply zO;intros)|(apply zT;omega)|(apply zU;omega)|(apply zP;omega;intros)|(apply zQ;omega;intros)|apply zR);cbv))
   refine .one cA rfl rfl ?_
   cbv
   (repeat'((first|(apply zS;kernel_rfl)|(apply zD;decide +kernel)|(apply zE;decide +kernel)|(apply zF;decide +kernel)|(apply zL;decide +kernel)|(apply zM;decide +kernel)|(apply zN;intros)|(apply zO;intros)|(apply zT;omega)|(apply zU;omega)|(apply zP;omega;intros)|(apply zQ;omega;intros)|apply zR);cbv))
   exact ⟨hQ _⟩
  | ok u to =>
   obtain ⟨d1,d2,w',d3,d4⟩ := main2 u to rfl
   have pU := ty_pure u
   have p1 : pureD (.tup [tyD u,.raw .nilIface]) = some (.tup [tyD u,.raw .nilIface]) := p1
   have c1 : CP (TT ()) 9 [.raw (.string s)] (· = .tup [tyD u,.raw .nilIface]) := c1
   clear main2
   obtain ⟨n2,m2,L2,K2,f2,_,_⟩ := ty_nodeR u
   rw [f2] at d1 d2 d3 d4 pU p1 c1
   generalize (match u with | .mk k _ _ _ _ => k) = k2 at *
   refine .one c1 rfl p1 ?_
   cbv
   (repeat'((first|(apply zS;kernel_rfl)|(apply zD;decide +kernel)|(apply zE;decide +kernel)|(apply zF;decide +kernel)|(apply zL;decide +kernel)|(apply zM;decide +kernel)|(apply zN;intros)|(apply zO;intros)|(apply zT;omega)|(apply zU;omega)|(apply zP;omega;intros)|(apply zQ;omega;intros)|apply zR);cbv))
   refine BinK.nilNe ?_
   cbv
   (repeat'((first|(apply zS;kernel_rfl)|(apply zD;decide +kernel)|(apply zE;decide +kernel)|(apply zF;decide +kernel)|(apply zL;decide +kernel)|(apply zM;decide +kernel)|(apply zN;intros)|(apply zO;intros)|(apply zT;omega)|(apply zU;omega)|(apply zP;omega;intros)|(apply zQ;omega;intros)|apply zR);cbv))
   refine .one d3 (cons_pure pU rfl) rfl ?_
   cbv
   (repeat'((first|(apply zS;kernel_rfl)|(apply zD;decide +kernel)|(apply zE;decide +kernel)|(apply zF;decide +kernel)|(apply zL;decide +kernel)|(apply zM;decide +kernel)|(apply zN;intros)|(apply zO;intros)|(apply zT;omega)|(apply zU;omega)|(apply zP;omega;intros)|(apply zQ;omega;intros)|apply zR);cbv))
   refine .one d4 rfl p1 ?_
   cbv
   (repeat'((first|(apply zS;kernel_rfl)|(apply zD;decide +kernel)|(apply zE;decide +kernel)|(apply zF;decide +kernel)|(apply zL;decide +kernel)|(apply zM;decide +kernel)|(apply zN;intros)|(apply zO;intros)|(apply zT;omega)|(apply zU;omega)|(apply zP;omega;intros)|(apply zQ;omega;intros)|apply zR);cbv))
   refine BinK.nilEq ?_
   cbv
   (repeat'((first|(apply zS;kernel_rfl)|(apply zD;decide +kernel)|(apply zE;decide +kernel)|(apply zF;decide +kernel)|(apply zL;decide +kernel)|(apply zM;decide +kernel)|(apply zN;intros)|(apply zO;intros)|(apply zT;omega)|(apply zU;omega)|(apply zP;omega;intros)|(apply zQ;omega;intros)|apply zR);cbv))
   refine .one d1 (cons_pure pU rfl) rfl ?_
   cbv
   (repeat'((first|(apply zS;kernel_rfl)|(apply zD;decide +kernel)|(apply zE;decide +kernel)|(apply zF;decide +kernel)|(apply zL;decide +kernel)|(apply zM;decide +kernel)|(apply zN;intros)|(apply zO;intros)|(apply zT;omega)|(apply zU;omega)|(apply zP;omega;intros)|(apply zQ;omega;intros)|apply zR);cbv))
   refine .one d2 (cons_pure pU (cons_pure pU rfl)) rfl ?_
   cbv
   (repeat'((first|(apply zS;kernel_rfl)|(apply zD;decide +kernel)|(apply zE;decide +kernel)|(apply zF;decide +kernel)|(apply zL;decide +kernel)|(apply zM;decide +kernel)|(apply zN;intros)|(apply zO;intros)|(apply zT;omega)|(apply zU;omega)|(apply zP;omega;intros)|(apply zQ;omega;intros)|apply zR);cbv))
   refine .one cA rfl rfl ?_
   cbv
   (repeat'((first|(apply zS;kernel_rfl)|(apply zD;decide +kernel)|(apply zE;decide +kernel)|(apply zF;decide +kernel)|(apply zL;decide +kernel)|(apply zM;decide +kernel)|(apply zN;intros)|(apply zO;intros)|(apply zT;omega)|(apply zU;omega)|(apply zP;omega;intros)|(apply zQ;omega;intros)|apply zR);cbv))
   exact ⟨hQ _⟩
 cbv
 (repeat'((first|(apply zS;kernel_rfl)|(apply zD;decide +kernel)|(apply zE;decide +kernel)|(apply zF;decide +kernel)|(apply zL;decide +kernel)|(apply zM;decide +kernel)|(apply zN;intros)|(apply zO;intros)|(apply zT;omega)|(apply zU;omega)|(apply zP;omega;intros)|(apply zQ;omega;intros)|apply zR);cbv))
 refine .one cH (cons_pure pT rfl) rfl ?_
 rcases h9 with _ | _
 rotate_left
 ·cbv
  (repeat'((first|(apply zS;kernel_rfl)|(apply zD;decide +kernel)|(apply zE;decide +kernel)|(apply zF;decide +kernel)|(apply zL;decide +kernel)|(apply zM;decide +kernel)|(apply zN;intros)|(apply zO;intros)|(apply zT;omega)|(apply zU;omega)|(apply zP;omega;intros)|(apply zQ;omega;intros)|apply zR);cbv))
  clear cR cH cD cS main1 pT p3
  cases R with
  | bad e p =>
   refine .one c1 rfl p1 ?_
   cbv
   (repeat'((first|(apply zS;kernel_rfl)|(apply zD;decide +kernel)|(apply zE;decide +kernel)|(apply zF;decide +kernel)|(apply zL;decide +kernel)|(apply zM;decide +kernel)|(apply zN;intros)|(apply zO;intros)|(apply zT;omega)|(apply zU;omega)|(apply zP;omega;intros)|(apply zQ;omega;intros)|apply zR);cbv))
   refine BinK.someNe ?_
   cbv
   (repeat'((first|(apply zS;kernel_rfl)|(apply zD;decide +kernel)|(apply zE;decide +kernel)|(apply zF;decide +kernel)|(apply zL;decide +kernel)|(apply zM;decide +kernel)|(apply zN;intros)|(apply zO;intros)|(apply zT;omega)|(apply zU;omega)|(apply zP;omega;intros)|(apply zQ;omega;intros)|apply zR);cbv))
   refine .one cA rfl rfl ?_
   cbv
   (repeat'((first|(apply zS;kernel_rfl)|(apply zD;decide +kernel)|(apply zE;decide +kernel)|(apply zF;decide +kernel)|(apply zL;decide +kernel)|(apply zM;decide +kernel)|(apply zN;intros)|(apply zO;intros)|(apply zT;omega)|(apply zU;omega)|(apply zP;omega;intros)|(apply zQ;omega;intros)|apply zR);cbv))
   exact ⟨hQ _⟩
  | ok u to =>
   obtain ⟨d1,d2,w',d3,d4⟩ := main2 u to rfl
   have pU := ty_pure u
   have p1 : pureD (.tup [tyD u,.raw .nilIface]) = some (.tup [tyD u,.raw .nilIface]) := p1
   have c1 : CP (TT ()) 9 [.raw (.string s)] (· = .tup [tyD u,.raw .nilIface]) := c1
   clear main2
   obtain ⟨n2,m2,L2,K2,f2,_,_⟩ := ty_nodeR u
   rw [f2] at d1 d2 d3 d4 pU p1 c1
   generalize (match u with | .mk k _ _ _ _ => k) = k2 at *
   refine .one c1 rfl p1 ?_
   cbv
   (repeat'((first|(apply zS;kernel_rfl)|(apply zD;decide +kernel)|(apply zE;decide +kernel)|(apply zF;decide +kernel)|(apply zL;decide +kernel)|(apply zM;decide +kernel)|(apply zN;intros)|(apply zO;intros)|(apply zT;omega)|(apply zU;omega)|(apply zP;omega;intros)|(apply zQ;omega;intros)|apply zR);cbv))
   refine BinK.nilNe ?_
   cbv
   (repeat'((first|(apply zS;kernel_rfl)|(apply zD;decide +kernel)|(apply zE;decide +kernel)|(apply zF;decide +kernel)|(apply zL;decide +kernel)|(apply zM;decide +kernel)|(apply zN;intros)|(apply zO;intros)|(apply zT;omega)|(apply zU;omega)|(apply zP;omega;intros)|(apply zQ;omega;intros)|apply zR);cbv))
   refine .one d3 (cons_pure pU rfl) rfl ?_
   cbv
   (repeat'((first|(apply zS;kernel_rfl)|(apply zD;decide +kernel)|(apply zE;decide +kernel)|(apply zF;decide +kernel)|(apply zL;decide +kernel)|(apply zM;decide +kernel)|(apply zN;intros)|(apply zO;intros)|(apply zT;omega)|(apply zU;omega)|(apply zP;omega;intros)|(apply zQ;omega;intros)|apply zR);cbv))
   refine .one d4 rfl p1 ?_
   cbv
   (repeat'((first|(apply zS;kernel_rfl)|(apply zD;decide +kernel)|(apply zE;decide +kernel)|(apply zF;decide +kernel)|(apply zL;decide +kernel)|(apply zM;decide +kernel)|(apply zN;intros)|(apply zO;intros)|(apply zT;omega)|(apply zU;omega)|(apply zP;omega;intros)|(apply zQ;omega;intros)|apply zR);cbv))
   refine BinK.nilEq ?_
   cbv
   (repeat'((first|(apply zS;kernel_rfl)|(apply zD;decide +kernel)|(apply zE;decide +kernel)|(apply zF;decide +kernel)|(apply zL;decide +kernel)|(apply zM;decide +kernel)|(apply zN;intros)|(apply zO;intros)|(apply zT;omega)|(apply zU;omega)|(apply zP;omega;intros)|(apply zQ;omega;intros)|apply zR);cbv))
   refine .one d1 (cons_pure pU rfl) rfl ?_
   cbv
   (repeat'((first|(apply zS;kernel_rfl)|(apply zD;decide +kernel)|(apply zE;decide +kernel)|(apply zF;decide +kernel)|(apply zL;decide +kernel)|(apply zM;decide +kernel)|(apply zN;intros)|(apply zO;intros)|(apply zT;omega)|(apply zU;omega)|(apply zP;omega;intros)|(apply zQ;omega;intros)|apply zR);cbv))
   refine .one d2 (cons_pure pU (cons_pure pU rfl)) rfl ?_
   cbv
   (repeat'((first|(apply zS;kernel_rfl)|(apply zD;decide +kernel)|(apply zE;decide +kernel)|(apply zF;decide +kernel)|(apply zL;decide +kernel)|(apply zM;decide +kernel)|(apply zN;intros)|(apply zO;intros)|(apply zT;omega)|(apply zU;omega)|(apply zP;omega;intros)|(apply zQ;omega;intros)|apply zR);cbv))
   refine .one cA rfl rfl ?_
   cbv
   (repeat'((first|(apply zS;kernel_rfl)|(apply zD;decide +kernel)|(apply zE;decide +kernel)|(apply zF;decide +kernel)|(apply zL;decide +kernel)|(apply zM;decide +kernel)|(apply zN;intros)|(apply zO;intros)|(apply zT;omega)|(apply zU;omega)|(apply zP;omega;intros)|(apply zQ;omega;intros)|apply zR);cbv))
   exact ⟨hQ _⟩
 cbv
 (repeat'((first|(apply zS;kernel_rfl)|(apply zD;decide +kernel)|(apply zE;decide +kernel)|(apply zF;decide +kernel)|(apply zL;decide +kernel)|(apply zM;decide +kernel)|(apply zN;intros)|(apply zO;intros)|(apply zT;omega)|(apply zU;omega)|(apply zP;omega;intros)|(apply zQ;omega;intros)|apply zR);cbv))
 refine .one cD (cons_pure pT rfl) rfl ?_
 cbv
 (repeat'((first|(apply zS;kernel_rfl)|(apply zD;decide +kernel)|(apply zE;decide +kernel)|(apply zF;decide +kernel)|(apply zL;decide +kernel)|(apply zM;decide +kernel)|(apply zN;intros)|(apply zO;intros)|(apply zT;omega)|(apply zU;omega)|(apply zP;omega;intros)|(apply zQ;omega;intros)|apply zR);cbv))
 refine BinK.leq ?_ ?_ <;> intro h3 <;> cbv <;> (repeat'((first|(apply zS;kernel_rfl)|(apply zD;decide +kernel)|(apply zE;decide +kernel)|(apply zF;decide +kernel)|(apply zL;decide +kernel)|(apply zM;decide +kernel)|(apply zN;intros)|(apply zO;intros)|(apply zT;omega)|(apply zU;omega)|(apply zP;omega;intros)|(apply zQ;omega;intros)|apply zR);cbv))
 ·obtain ⟨w,c2,c3⟩ := main1 rfl rfl h3
  refine .one c2 (cons_pure pT rfl) rfl ?_
  cbv
  (repeat'((first|(apply zS;kernel_rfl)|(apply zD;decide +kernel)|(apply zE;decide +kernel)|(apply zF;decide +kernel)|(apply zL;decide +kernel)|(apply zM;decide +kernel)|(apply zN;intros)|(apply zO;intros)|(apply zT;omega)|(apply zU;omega)|(apply zP;omega;intros)|(apply zQ;omega;intros)|apply zR);cbv))
  refine .one c3 rfl p3 ?_
  cbv
  (repeat'((first|(apply zS;kernel_rfl)|(apply zD;decide +kernel)|(apply zE;decide +kernel)|(apply zF;decide +kernel)|(apply zL;decide +kernel)|(apply zM;decide +kernel)|(apply zN;intros)|(apply zO;intros)|(apply zT;omega)|(apply zU;omega)|(apply zP;omega;intros)|(apply zQ;omega;intros)|apply zR);cbv))
  refine BinK.nilNe ?_
  cbv
  (repeat'((first|(apply zS;kernel_rfl)|(apply zD;decide +kernel)|(apply zE;decide +kernel)|(apply zF;decide +kernel)|(apply zL;decide +kernel)|(apply zM;decide +kernel)|(apply zN;intros)|(apply zO;intros)|(apply zT;omega)|(apply zU;omega)|(apply zP;omega;intros)|(apply zQ;omega;intros)|apply zR);cbv))
  refine .one cS (cons_pure pT (cons_pure pT rfl)) rfl ?_
  cbv
  (repeat'((first|(apply zS;kernel_rfl)|(apply zD;decide +kernel)|(apply zE;decide +kernel)|(apply zF;decide +kernel)|(apply zL;decide +kernel)|(apply zM;decide +kernel)|(apply zN;intros)|(apply zO;intros)|(apply zT;omega)|(apply zU;omega)|(apply zP;omega;intros)|(apply zQ;omega;intros)|apply zR);cbv))
  clear cR cH cD cS main1 pT p3
  cases R with
  | bad e p =>
   refine .one c1 rfl p1 ?_
   cbv
   (repeat'((first|(apply zS;kernel_rfl)|(apply zD;decide +kernel)|(apply zE;decide +kernel)|(apply zF;decide +kernel)|(apply zL;decide +kernel)|(apply zM;decide +kernel)|(apply zN;intros)|(apply zO;intros)|(apply zT;omega)|(apply zU;omega)|(apply zP;omega;intros)|(apply zQ;omega;intros)|apply zR);cbv))
   refine BinK.someNe ?_
   cbv
   (repeat'((first|(apply zS;kernel_rfl)|(apply zD;decide +kernel)|(apply zE;decide +kernel)|(apply zF;decide +kernel)|(apply zL;decide +kernel)|(apply zM;decide +kernel)|(apply zN;intros)|(apply zO;intros)|(apply zT;omega)|(apply zU;omega)|(apply zP;omega;intros)|(apply zQ;omega;intros)|apply zR);cbv))
   refine .one cA rfl rfl ?_
   cbv
   (repeat'((first|(apply zS;kernel_rfl)|(apply zD;decide +kernel)|(apply zE;decide +kernel)|(apply zF;decide +kernel)|(apply zL;decide +kernel)|(apply zM;decide +kernel)|(apply zN;intros)|(apply zO;intros)|(apply zT;omega)|(apply zU;omega)|(apply zP;omega;intros)|(apply zQ;omega;intros)|apply zR);cbv))
   exact ⟨hQ _⟩
  | ok u to =>
   obtain ⟨d1,d2,w',d3,d4⟩ := main2 u to rfl
   have pU := ty_pure u
   have p1 : pureD (.tup [tyD u,.raw .nilIface]) = some (.tup [tyD u,.raw .nilIface]) := p1
   have c1 : CP (TT ()) 9 [.raw (.string s)] (· = .tup [tyD u,.raw .nilIface]) := c1
   clear main2
   obtain ⟨n2,m2,L2,K2,f2,_,_⟩ := ty_nodeR u
   rw [f2] at d1 d2 d3 d4 pU p1 c1
   generalize (match u with | .mk k _ _ _ _ => k) = k2 at *
   refine .one c1 rfl p1 ?_
   cbv
   (repeat'((first|(apply zS;kernel_rfl)|(apply zD;decide +kernel)|(apply zE;decide +kernel)|(apply zF;decide +kernel)|(apply zL;decide +kernel)|(apply zM;decide +kernel)|(apply zN;intros)|(apply zO;intros)|(apply zT;omega)|(apply zU;omega)|(apply zP;omega;intros)|(apply zQ;omega;intros)|apply zR);cbv))
   refine BinK.nilNe ?_
   cbv
   (repeat'((first|(apply zS;kernel_rfl)|(apply zD;decide +kernel)|(apply zE;decide +kernel)|(apply zF;decide +kernel)|(apply zL;decide +kernel)|(apply zM;decide +kernel)|(apply zN;intros)|(apply zO;intros)|(apply zT;omega)|(apply zU;omega)|(apply zP;omega;intros)|(apply zQ;omega;intros)|apply zR);cbv))
   refine .one d3 (cons_pure pU rfl) rfl ?_
   cbv
   (repeat'((first|(apply zS;kernel_rfl)|(apply zD;decide +kernel)|(apply zE;decide +kernel)|(apply zF;decide +kernel)|(apply zL;decide +kernel)|(apply zM;decide +kernel)|(apply zN;intros)|(apply zO;intros)|(apply zT;omega)|(apply zU;omega)|(apply zP;omega;intros)|(apply zQ;omega;intros)|apply zR);cbv))
   refine .one d4 rfl p1 ?_
   cbv
   (repeat'((first|(apply zS;kernel_rfl)|(apply zD;decide +kernel)|(apply zE;decide +kernel)|(apply zF;decide +kernel)|(apply zL;decide +kernel)|(apply zM;decide +kernel)|(apply zN;intros)|(apply zO;intros)|(apply zT;omega)|(apply zU;omega)|(apply zP;omega;intros)|(apply zQ;omega;intros)|apply zR);cbv))
   refine BinK.nilEq ?_
   cbv
   (repeat'((first|(apply zS;kernel_rfl)|(apply zD;decide +kernel)|(apply zE;decide +kernel)|(apply zF;decide +kernel)|(apply zL;decide +kernel)|(apply zM;decide +kernel)|(apply zN;intros)|(apply zO;intros)|(apply zT;omega)|(apply zU;omega)|(apply zP;omega;intros)|(apply zQ;omega;intros)|apply zR);cbv))
   refine .one d1 (cons_pure pU rfl) rfl ?_
   cbv
   (repeat'((first|(apply zS;kernel_rfl)|(apply zD;decide +kernel)|(apply zE;decide +kernel)|(apply zF;decide +kernel)|(apply zL;decide +kernel)|(apply zM;decide +kernel)|(apply zN;intros)|(apply zO;intros)|(apply zT;omega)|(apply zU;omega)|(apply zP;omega;intros)|(apply zQ;omega;intros)|apply zR);cbv))
   refine .one d2 (cons_pure pU (cons_pure pU rfl)) rfl ?_
   cbv
   (repeat'((first|(apply zS;kernel_rfl)|(apply zD;decide +kernel)|(apply zE;decide +kernel)|(apply zF;decide +kernel)|(apply zL;decide +kernel)|(apply zM;decide +kernel)|(apply zN;intros)|(apply zO;intros)|(apply zT;omega)|(apply zU;omega)|(apply zP;omega;intros)|(apply zQ;omega;intros)|apply zR);cbv))
   refine .one cA rfl rfl ?_
   cbv
   (repeat'((first|(apply zS;kernel_rfl)|(apply zD;decide +kernel)|(apply zE;decide +kernel)|(apply zF;decide +kernel)|(apply zL;decide +kernel)|(apply zM;decide +kernel)|(apply zN;intros)|(apply zO;intros)|(apply zT;omega)|(apply zU;omega)|(apply zP;omega;intros)|(apply zQ;omega;intros)|apply zR);cbv))
   exact ⟨hQ _⟩
 ·clear cR cH cD cS main1 pT p3
  cases R with
  | bad e p =>
   refine .one c1 rfl p1 ?_
   cbv
   (repeat'((first|(apply zS;kernel_rfl)|(apply zD;decide +kernel)|(apply zE;decide +kernel)|(apply zF;decide +kernel)|(apply zL;decide +kernel)|(apply zM;decide +kernel)|(apply zN;intros)|(apply zO;intros)|(apply zT;omega)|(apply zU;omega)|(apply zP;omega;intros)|(apply zQ;omega;intros)|apply zR);cbv))
   refine BinK.someNe ?_
   cbv
   (repeat'((first|(apply zS;kernel_rfl)|(apply zD;decide +kernel)|(apply zE;decide +kernel)|(apply zF;decide +kernel)|(apply zL;decide +kernel)|(apply zM;decide +kernel)|(apply zN;intros)|(apply zO;intros)|(apply zT;omega)|(apply zU;omega)|(apply zP;omega;intros)|(apply zQ;omega;intros)|apply zR);cbv))
   refine .one cA rfl rfl ?_
   cbv
   (repeat'((first|(apply zS;kernel_rfl)|(apply zD;decide +kernel)|(apply zE;decide +kernel)|(apply zF;decide +kernel)|(apply zL;decide +kernel)|(apply zM;decide +kernel)|(apply zN;intros)|(apply zO;intros)|(apply zT;omega)|(apply zU;omega)|(apply zP;omega;intros)|(apply zQ;omega;intros)|apply zR);cbv))
   exact ⟨hQ _⟩
  | ok u to =>
   obtain ⟨d1,d2,w',d3,d4⟩ := main2 u to rfl
   have pU := ty_pure u
   have p1 : pureD (.tup [tyD u,.raw .nilIface]) = some (.tup [tyD u,.raw .nilIface]) := p1
   have c1 : CP (TT ()) 9 [.raw (.string s)] (· = .tup [tyD u,.raw .nilIface]) := c1
   clear main2
   obtain ⟨n2,m2,L2,K2,f2,_,_⟩ := ty_nodeR u
   rw [f2] at d1 d2 d3 d4 pU p1 c1
   generalize (match u with | .mk k _ _ _ _ => k) = k2 at *
   refine .one c1 rfl p1 ?_
   cbv
   (repeat'((first|(apply zS;kernel_rfl)|(apply zD;decide +kernel)|(apply zE;decide +kernel)|(apply zF;decide +kernel)|(apply zL;decide +kernel)|(apply zM;decide +kernel)|(apply zN;intros)|(apply zO;intros)|(apply zT;omega)|(apply zU;omega)|(apply zP;omega;intros)|(apply zQ;omega;intros)|apply zR);cbv))
   refine BinK.nilNe ?_
   cbv
   (repeat'((first|(apply zS;kernel_rfl)|(apply zD;decide +kernel)|(apply zE;decide +kernel)|(apply zF;decide +kernel)|(apply zL;decide +kernel)|(apply zM;decide +kernel)|(apply zN;intros)|(apply zO;intros)|(apply zT;omega)|(apply zU;omega)|(apply zP;omega;intros)|(apply zQ;omega;intros)|apply zR);cbv))
   refine .one d3 (cons_pure pU rfl) rfl ?_
   cbv
   (repeat'((first|(apply zS;kernel_rfl)|(apply zD;decide +kernel)|(apply zE;decide +kernel)|(apply zF;decide +kernel)|(apply zL;decide +kernel)|(apply zM;decide +kernel)|(apply zN;intros)|(apply zO;intros)|(apply zT;omega)|(apply zU;omega)|(apply zP;omega;intros)|(apply zQ;omega;intros)|apply zR);cbv))
   refine .one d4 rfl p1 ?_
   cbv
   (repeat'((first|(apply zS;kernel_rfl)|(apply zD;decide +kernel)|(apply zE;decide +kernel)|(apply zF;decide +kernel)|(apply zL;decide +kernel)|(apply zM;decide +kernel)|(apply zN;intros)|(apply zO;intros)|(apply zT;omega)|(apply zU;omega)|(apply zP;omega;intros)|(apply zQ;omega;intros)|apply zR);cbv))
   refine BinK.nilEq ?_
   cbv
   (repeat'((first|(apply zS;kernel_rfl)|(apply zD;decide +kernel)|(apply zE;decide +kernel)|(apply zF;decide +kernel)|(apply zL;decide +kernel)|(apply zM;decide +kernel)|(apply zN;intros)|(apply zO;intros)|(apply zT;omega)|(apply zU;omega)|(apply zP;omega;intros)|(apply zQ;omega;intros)|apply zR);cbv))
   refine .one d1 (cons_pure pU rfl) rfl ?_
   cbv
   (repeat'((first|(apply zS;kernel_rfl)|(apply zD;decide +kernel)|(apply zE;decide +kernel)|(apply zF;decide +kernel)|(apply zL;decide +kernel)|(apply zM;decide +kernel)|(apply zN;intros)|(apply zO;intros)|(apply zT;omega)|(apply zU;omega)|(apply zP;omega;intros)|(apply zQ;omega;intros)|apply zR);cbv))
   refine .one d2 (cons_pure pU (cons_pure pU rfl)) rfl ?_
   cbv
   (repeat'((first|(apply zS;kernel_rfl)|(apply zD;decide +kernel)|(apply zE;decide +kernel)|(apply zF;decide +kernel)|(apply zL;decide +kernel)|(apply zM;decide +kernel)|(apply zN;intros)|(apply zO;intros)|(apply zT;omega)|(apply zU;omega)|(apply zP;omega;intros)|(apply zQ;omega;intros)|apply zR);cbv))
   refine .one cA rfl rfl ?_
   cbv
   (repeat'((first|(apply zS;kernel_rfl)|(apply zD;decide +kernel)|(apply zE;decide +kernel)|(apply zF;decide +kernel)|(apply zL;decide +kernel)|(apply zM;decide +kernel)|(apply zN;intros)|(apply zO;intros)|(apply zT;omega)|(apply zU;omega)|(apply zP;omega;intros)|(apply zQ;omega;intros)|apply zR);cbv))
   exact ⟨hQ _⟩
theorem back_law (t : Ty5) (s : ByteArray) (ho : okT t) (hz : szT t ≤ 1048576) : CP (TT ()) 3 [tyD t,.raw (.string s)] (· = .raw (.bool true)) := runV fun Q hQ => back_run t s ho hz Q hQ
end Go.Proofs.YtmogemakfpoajaaGreatDoor
namespace Go.Proofs.YtmogemakfpoajaaGreatDoor.bkP
open Go.ChangeShapes Go.WideShapes Go.ChangeAt Go.RowKit Go.Proofs.YtmogemakfpoajaaGreatDoor Pv
theorem strsB_bulk : ∀ ls : List ByteArray,bulkL (ls.map strD) = szS ls
 | [] => rfl
 | s :: r => by
  have := strsB_bulk r
  simp only [List.map_cons,strD,bulkL,bulkD,szS]
  omega
mutual
theorem tyB_bulk : ∀ t : Ty5,szT t ≤ bulkD (tyD t)
 | .mk k n nm ls ks => by
  have h1 := tysB_bulk ks
  have h2 := strsB_bulk ls
  simp only [szT,tyD,bulkD,bulkL]
  omega
theorem tysB_bulk : ∀ ks : List Ty5,szL ks ≤ bulkL (tysD ks)
 | [] => Nat.zero_le _
 | t :: r => by
  have h1 := tyB_bulk t
  have h2 := tysB_bulk r
  simp only [szL,tysD,bulkL]
  omega
end
def laidList : List (String × DataW Unit) := [("math/bits.deBruijn32tab", Rows.laid_math_bits_deBruijn32tab), ("math/bits.deBruijn64tab", Rows.laid_math_bits_deBruijn64tab), ("internal/strconv.uint64pow10", Rows.laid_internal_strconv_uint64pow10)]
theorem tab_at {W : World} (h : laidMetH Tryz.prog laidList W) : Lib.TabIs Tryz.prog W "internal/strconv.uint64pow10" .u64 Lib.pow10Tab := by
 have h1 : laidMet Tryz.prog laidList W := by rw [← Go.MakeChecks.laidMetH_plain Tryz.prog laidList W (by kernel_rfl)];exact h
 have h2 := h1.filter fun x => x.1 == "internal/strconv.uint64pow10"
 have h3 : (laidList.filter fun x => x.1 == "internal/strconv.uint64pow10") = [("internal/strconv.uint64pow10", Lib.tabData .u64 Lib.pow10Tab)] := by kernel_rfl
 rw [h3] at h2
 exact Lib.tabIs_of_head (t := 130) (e := 118) (n := 20) (g := 0) (by kernel_rfl) (by kernel_rfl) Tryz.underlying130 Tryz.underlying118 (by kernel_rfl) (by kernel_rfl) h2
theorem okay_tab {W : World} (h : Lib.TabIs Tryz.prog W "internal/strconv.uint64pow10" .u64 Lib.pow10Tab) : Pv.Okay (allS W) W := by
 have hg : Tryz.prog.globalNamed "internal/strconv.uint64pow10" = some 0 := by kernel_rfl
 have hlt : 0 < W.heap.size := World.block_lt_of_cell? W _ (h.cell hg 0 (by rw [Lib.pow10Tab_length];decide))
 refine ⟨fun _ _ h => h,fun x hx => ?_⟩
 unfold Pv.ghost at hx
 obtain ⟨i,hi,rfl⟩ := List.mem_map.1 hx
 refine ⟨hlt,?_⟩
 rw [List.mem_range] at hi
 by_cases h20 : i < 20
 ·simp only [if_pos h20]
  rw [h.cell hg i (by rw [Lib.pow10Tab_length];omega),Lib.pow10Tab_at _ h20]
 ·simp only [if_neg h20]
  have := World.var?_cell hg h i
  rw [this]
  simp [Lib.pow10Tab]
  omega
section
variable {H : Type} {enc : TypeId × Value -> H}
theorem of_cond_and {a : Assume} {C : Checked} {os : Os} {f : FuncId} {fn : Func} {s : OpenSpec} {k : (H : Type) -> List (DataW H) -> Bool} (hk : s.cond = some k) {F : Stop.Interp} {conds : List PathCond} {apart fresh handsOn again : Bool} {X : World -> Array Value -> Prop}
  (hX : ∀ (w w' : World) (args : Array Value),w.heap = w'.heap -> X w args -> X w' args)
  (own : ownKnob C.prog.godebug = none) (started : os.Started) (noInit : C.prog.inits.idxOf? f = none) (hfn : C.prog.funcs[f]? = some fn)
  (witness : ∃ (w : World) (tape : Tape) (i : Input),w.os = os ∧ (w.forCall tape i).Shaped C.prog ∧ i.vars = [] ∧ Input.okWide C.prog (w.forCall tape i) .any w.heap.size f i ∧
   ((s.pre enc C.prog fn conds apart (w.forCall tape i).memory i.args ∧ X (w.forCall tape i).memory i.args) ∧ sizedMet enc C.prog fn s apart (w.forCall tape i).memory i.args) ∧ a.holds C.prog (lone (Frame.enter C.prog f i.args .normal) [] (w.forCall tape i)))
  (contract : ∀ (W : World) (base : Nat) (args : Array Value) (ds gs : List (DataW H)) (before : List MemPlace),
   (∀ (j : Nat) t v,fn.params[j]? = some t -> args[j]? = some v -> Value.okWide C.prog W .any base t v) ->
   DataW.Whole enc C.prog fn.params.toList s.vars apart W args.toList ds gs before ->
   conds.all (PathCond.test C.prog ⟨fn.params.toList,ds,s.bare.plain.varTypes C.prog,gs⟩) = true -> k H (ds ++ gs) = true -> X W args ->
   a.holds C.prog (lone (Frame.enter C.prog f args .normal) [] W) ->
   Calls C.prog f args W fun e W' => ∃ v,e = .returned v ∧ (s.at F).post enc C.prog fn apart fresh handsOn again W args v W') :
  ReturnsInHanded a C os f .any (fun w args => (s.pre enc C.prog fn conds apart w args ∧ X w args) ∧ sizedMet enc C.prog fn s apart w args) ((s.at F).post enc C.prog fn apart fresh handsOn again) := by
 refine returnsInHanded_of_calls own started noInit witness ?_
 intro w tape i _ _ _ hok hpre hholds
 obtain ⟨_,_,_,fn',hfn',_,_,_,_,hval⟩ := hok
 have e : fn' = fn := Option.some.inj (hfn'.symm.trans hfn)
 subst e
 obtain ⟨ds,gs,before,hw,hc,hkk⟩ := (OpenSpec.pre_some hk conds apart _ _).1 hpre.1.1
 have hw' := DataW.Whole.of_heap (w' := w.forCall tape i) (by rfl) hw
 refine (contract (w.forCall tape i) w.heap.size i.args ds gs before hval hw' hc hkk (hX _ _ _ (by rfl) hpre.1.2) hholds).mono fun e W' ⟨v,he,hp⟩ => ?_
 subst he
 exact ChangeSpec.post_blind hp
end
theorem kinds2 : Kinds Tryz.prog (fun t => t = 3 ∨ t = 9 ∨ t = 22 ∨ t = 23 ∨ t = 25) where
 ok := by
  rintro t (rfl | rfl | rfl | rfl | rfl)
  ·rw [Tryz.underlying3];show Tryz.prog.cellsOf _ = 1;kernel_rfl
  ·rw [Tryz.underlying9];show Tryz.prog.cellsOf _ = 1;kernel_rfl
  ·rw [Tryz.underlying22];exact ⟨by kernel_rfl,by simp,by rw [cellsOf_str];decide⟩
  ·rw [Tryz.underlying23];exact ⟨by kernel_rfl,by simp,by rw [cellsOf_ty];decide⟩
  ·rw [Tryz.underlying25];exact ⟨by kernel_rfl,by intro f hf;simp at hf;rcases hf with rfl | rfl | rfl | rfl | rfl <;> simp⟩
theorem part_le {H : Type} {d : DataW H} {l : List (DataW H)} (h : d ∈ l) : Rows.uptoBulk d ≤ Rows.uptoBulkAll l := by
 induction l with
 | nil => cases h
 | cons x r ih =>
  simp only [Rows.uptoBulkAll]
  cases List.mem_cons.1 h with
  | inl e => subst e;omega
  | inr e => have := ih e;omega
theorem met (os : Os) (args : Array Value) : laidMet Tryz.prog laidList ((World.laidAll Tryz.prog os laidList).forCall (fun _ _ => 0) ⟨#[],args,[]⟩).memory :=
 laidMet_laidAll args (by kernel_rfl) (by kernel_rfl)
theorem metH (os : Os) (args : Array Value) : laidMetH Tryz.prog laidList ((World.laidAll Tryz.prog os laidList).forCall (fun _ _ => 0) ⟨#[],args,[]⟩).memory := by
 rw [Go.MakeChecks.laidMetH_plain Tryz.prog laidList _ (by kernel_rfl)]
 exact met os args
def wArgs : Array Value := #[.agg #[.int .i64 0,.int .i64 0,.string ⟨#[]⟩,.slice none 0 0,.slice none 0 0],.string ⟨#[]⟩]
theorem witness (os : Os) (H : Type) (enc : TypeId × Value -> H) : ∃ (w : World) (tape : Tape) (i : Input),w.os = os ∧ (w.forCall tape i).Shaped Tryz.prog ∧ i.vars = [] ∧ Input.okWide Tryz.prog (w.forCall tape i) .any w.heap.size 3 i ∧
   (((Rows.OpenSpec.upto Rows.tyreadBackSpec).pre enc Tryz.prog Tryz.f3 [] false (w.forCall tape i).memory i.args ∧ laidMetH Tryz.prog laidList (w.forCall tape i).memory) ∧ sizedMet enc Tryz.prog Tryz.f3 (Rows.OpenSpec.upto Rows.tyreadBackSpec) false (w.forCall tape i).memory i.args) ∧ ({} : Assume).holds Tryz.prog (lone (Frame.enter Tryz.prog 3 i.args .normal) [] (w.forCall tape i)) :=
 have hok : Input.okWideB Tryz.prog ((World.laidAll Tryz.prog os laidList).forCall (fun _ _ => 0) ⟨#[],wArgs,[]⟩) 3 ⟨#[],wArgs,[]⟩ = true := by kernel_rfl
 ⟨World.laidAll Tryz.prog os laidList,fun _ _ => 0,⟨#[],wArgs,[]⟩,World.laidAll_os _ _ _,World.shaped_of_B (by kernel_rfl) (by kernel_rfl),(Input.okWide_of_okWideB (base := 0) hok).1,(Input.okWide_of_okWideB hok).2,
  ⟨⟨(OpenSpec.pre_some (k := Rows.uptoSmall) rfl [] false _ _).2 ⟨_,_,_,DataW.Whole_of_whole (x := ([.agg [.lit (.int .i64 0),.lit (.int .i64 0),.lit (.string []),.nil,.nil],.lit (.string [])],[],[])) (fuel := 8) (by kernel_rfl),by kernel_rfl,by kernel_rfl⟩,metH os wArgs⟩,sizedMet_of_sizedB (fuel := 8) (by kernel_rfl)⟩,by
  simp only [Assume.holds]
  exact ⟨by simp,by simp,fun _ => Modest.zero,by simp,by simp⟩⟩
theorem lifted (os : Os) (started : os.Started) (H : Type) (enc : TypeId × Value -> H) (F : Stop.Interp) :
  ReturnsInHanded {} Tryz.checked os 3 .any (fun w args => ((Rows.OpenSpec.upto Rows.tyreadBackSpec).pre enc Tryz.prog Tryz.f3 [] false w args ∧ laidMetH Tryz.prog laidList w) ∧ sizedMet enc Tryz.prog Tryz.f3 (Rows.OpenSpec.upto Rows.tyreadBackSpec) false w args)
   (((Rows.OpenSpec.upto Rows.tyreadBackSpec).at F).post enc Tryz.prog Tryz.f3 false true false false) := by
 refine of_cond_and (C := Tryz.checked) (s := Rows.OpenSpec.upto Rows.tyreadBackSpec) (k := Rows.uptoSmall) rfl (X := fun w _ => laidMetH Tryz.prog laidList w) (fun _ _ _ hh h => h.of_heap hh) own started (by kernel_rfl) Tryz.func3 (witness os H enc) ?_
 intro W base args ds gs before hval0 hW _ hk hL _
 have hval : ∀ (j : Nat) t v,Tryz.f3.params[j]? = some t -> args[j]? = some v -> Value.okWide Tryz.prog W .any base t v := hval0
 have hW' := hW
 have hend : ∀ W',Below W.heap.size W W' -> Rows.tyreadBackSpec.post enc Tryz.prog Tryz.f3 false true false false W args (.bool true) W' := fun W' hb =>
  law_post (bt := 4) laid hW' rfl rfl Tryz.underlying4 (by rw [show Tryz.f3.params = _ from Tryz.params3];intro t ht;simp at ht;rcases ht with rfl | rfl <;> exact ⟨by kernel_rfl,of_decide_eq_true (by kernel_rfl)⟩)
   (by rw [show Tryz.f3.params = _ from Tryz.params3];intro l hl;match l,hl with | [_,_],_ => rfl) hb
 obtain ⟨p,q,hA0,hV,hpq,_,_⟩ := hW
 have hA : DataW.TrodAll enc Tryz.prog W 0 (fun _ => true) true Tryz.f3.params.toList args.toList ds p := hA0
 rw [Tryz.params3] at hA hval
 obtain ⟨v0,vs0,d0,ds0,p0,q0,hargs,rfl,rfl,h0,r0⟩ := trodAll_cons hA
 obtain ⟨v1,vs1,d1,ds1,p1,q1,rfl,rfl,rfl,h1,r1⟩ := trodAll_cons r0
 obtain ⟨rfl,rfl,rfl⟩ := trodAll_nil r1
 obtain rfl : args = #[v0,v1] := by cases args;simp_all
 have hB : Rows.uptoBulkAll ([d0,d1] ++ gs) ≤ 1048576 := of_decide_eq_true hk
 obtain ⟨n0,x0,g0,k0,b0⟩ := param_hasb kinds2 (by simp) (hval 0 25 _ rfl rfl) h0
 have b0 := Nat.le_trans b0 (Nat.le_trans (part_le (H := H) (d := d0) (l := [d0,d1] ++ gs) (by simp)) hB)
 obtain ⟨t,rfl,ho⟩ := has_ty _ g0
 have hz := Nat.le_trans (tyB_bulk t) b0
 obtain ⟨n1,x1,g1,k1,b1⟩ := param_hasb kinds2 (by simp) (hval 1 9 _ rfl rfl) h1
 obtain ⟨s,rfl,hs⟩ := g1.str Tryz.underlying9
 refine ((back_law t s ho hz).2 (allS W) W [v0,v1] (okay_tab (tab_at hL)) ⟨_,_,rfl,k0,_,_,rfl,k1,rfl⟩).mono ?_
 rintro e W' ⟨v,S',d,rfl,rfl,hb,_,_,hv⟩
 simp only [Pv.Rd] at hv
 subst hv
 exact ⟨_,rfl,hend W' hb⟩
theorem row_holds : Rows.TyreadBackUptoSaid :=
 OpenClaim.holds_of_cond 3 Tryz.f3 rfl rfl rfl rfl rfl rfl rfl ⟨rfl,rfl,rfl,rfl,rfl⟩ rfl rfl rfl rfl rfl (by kernel_rfl) Tryz.func3 (by kernel_rfl)
  (of_decide_eq_true (by kernel_rfl)) (by unfold Func.isWrapper;first | (rw [if_pos (by decide +kernel)];kernel_rfl) | (rw [if_neg (by decide +kernel)];exact ⟨rfl,rfl⟩))
  (fun os started H enc _ F => lifted os started H enc F)
theorem holds : Rows.TyreadBackUptoCardSaid :=
 Claim7.holds_tied_plain_at .later [] [.data,.data,.data] true Rows.tyreadBackUptoCard.stood.harness true
  row_holds (fun _ h => by cases h) (by kernel_rfl) (fun _ h => by cases h) tyreadBackUpto_row_tie rfl ⟨rfl,rfl⟩ (by kernel_rfl) rfl
  (fun f fn hf hfn => by
   obtain rfl : f = 3 := Option.some.inj ((show Tryz.prog.funcNamed "limbeck/limbecklaw06.TyreadBack" = some 3 by kernel_rfl).symm.trans hf) |>.symm
   obtain rfl : fn = Tryz.f3 := (Option.some.inj (Tryz.func3.symm.trans hfn)).symm
   exact ⟨by kernel_rfl,fun j t ht => by
    have hm : t ∈ Tryz.f3.params.toList := by
     have := (Array.getElem?_eq_some_iff.1 ht)
     obtain ⟨h1,h2⟩ := this
     rw [← h2];simp
    rw [show Tryz.f3.params = _ from Tryz.params3] at hm
    simp at hm
    rcases hm with rfl | rfl <;> (refine (show Tryz.prog.wantsStandIn _ = false from ?_);kernel_rfl)⟩)
  (by kernel_rfl)
end Go.Proofs.YtmogemakfpoajaaGreatDoor.bkP

/- Parts of the proof: EpZ, EpB, EpA. -/
import Derived.Test.YtglefhgcfijiaaaGAj
import Derived.Test.YtglefhgcfijiaaaGAx
import Derived.Test.YtglefhgcfijiaaaGAy
import Derived.Test.YtglefhgcfijiaaaGAi
set_option linter.unusedSimpArgs false
set_option linter.unusedVariables false
set_option maxRecDepth 1000000
set_option maxHeartbeats 40000000
namespace Go.Proofs.Ytglefhgcfijiaaa
open Go.RowKit Pv
def sizeN (d : Df) : Nat := nodesE d.bd + nodesL (sgTs d.sg)
def bmL : Nat -> List Bd -> Nat
 | n,[] => n
 | n,p :: r => if n < 3000 then bmL (n + much p.2 + p.1.size / 8) r else n
def bindsN (l : List Bd) : Nat := bmL l.length l
theorem bmL_ge : ∀ (n : Nat) (l : List Bd),n ≤ bmL n l
 | n,[] => Nat.le_refl _
 | n,t :: r => by
  have h2 := bmL_ge (n + much t.2 + t.1.size / 8) r
  simp only [bmL]
  split <;> omega
theorem bmL_nodes : ∀ (n : Nat) (l : List Bd),bmL n l < 3000 -> n + nodesL (l.map Prod.snd) ≤ bmL n l
 | n,[],_ => by simp [bmL,nodesL]
 | n,t :: r,h => by
  simp only [bmL,List.map_cons,nodesL] at *
  have hn := bmL_ge n (t :: r)
  simp only [bmL] at hn
  by_cases h3 : n < 3000
  ·rw [if_pos h3] at h ⊢
   have h1 := bmL_ge (n + much t.2 + t.1.size / 8) r
   have h2 := much_nodes t.2 (by omega)
   have h4 := bmL_nodes (n + much t.2 + t.1.size / 8) r h
   omega
  ·rw [if_neg h3] at h
   omega
theorem bmL_step {n : Nat} {l : List Bd} {i : Nat} {p : Bd} (h : l[i]? = some p) (h3 : n < 3000) : bmL n (l.drop i) = bmL (n + much p.2 + p.1.size / 8) (l.drop (i + 1)) := by
 obtain ⟨h1,h2⟩ := List.getElem?_eq_some_iff.1 h
 rw [List.drop_eq_getElem_cons h1,h2]
 simp only [bmL]
 rw [if_pos h3]
theorem bmL_stop {n : Nat} (l : List Bd) (h : ¬ n < 3000) : bmL n l = n := by
 cases l
 ·rfl
 ·simp only [bmL]
  rw [if_neg h]
theorem binds14_run (l : List Bd) (ho : okB l) (hl : l.length ≤ 1048576) (hz : ∀ p ∈ l,p.1.size ≤ 1048576 ∧ szT p.2 ≤ 1048576) (Q : D -> H -> Prop)
  (hQ : ∀ (z : Int) h',0 ≤ z -> z.toNat = bindsN l -> z ≤ 9000000 -> Q (.raw (.int .i64 z)) h') : wfun TT 44 [.sl none 6 (bnsD l)] [] Q := by
 have hBi := bns_idb l
 have hBl := bns_len l
 have hat := fun i => bns_at (m := l) (i := i)
 have hQ : ∀ (z : Int) h',0 ≤ z -> z.toNat = bmL l.length l -> z ≤ 9000000 -> Q (.raw (.int .i64 z)) h' := hQ
 obtain ⟨S,hS⟩ : ∃ S,S = l.length := ⟨_,rfl⟩
 have hQ : ∀ (z : Int) h',0 ≤ z -> z.toNat = bmL S l -> z ≤ 9000000 -> Q (.raw (.int .i64 z)) h' := by rw [hS];exact hQ
 generalize bnsD l = BS at hBi hBl hat ⊢
 cbv
 (repeat'((first|(apply zS;kernel_rfl)|(apply zD;decide +kernel)|(apply zE;decide +kernel)|(apply zF;decide +kernel)|(apply zL;decide +kernel)|(apply zM;decide +kernel)|(apply zN;intros)|(apply zO;intros)|(apply zT;omega)|(apply zU;omega)|(apply zP;omega;intros)|(apply zQ;omega;intros)|apply zR);cbv))
 rename_i y hy0 hy
 refine LoopK.put (X := Int × Int) (fun x => [(3,.raw (.int .i64 x.2)),(4,.raw (.int .i64 x.1))]) (fun _ => []) (fun x => l.length - x.1.toNat)
  (fun x => 0 ≤ x.1 ∧ x.1.toNat ≤ l.length ∧ 0 ≤ x.2 ∧ x.2 ≤ 9000000 ∧ bmL x.2.toNat (l.drop x.1.toNat) = bmL S l) (0,y) ⟨by simp,by simp,hy0,by simp only;omega,by simp only;rw [show y.toNat = S by omega];rfl⟩ rfl rfl ?_
 rintro ⟨i,z⟩ N ⟨h0,hi,hz0,hzb,hI⟩ hN
 simp only at h0 hi hz0 hzb hI hN ⊢
 by_cases hgo : i.toNat < l.length ∧ z < 3000
 ·cbv
  (repeat'((first|(apply zS;kernel_rfl)|(apply zD;decide +kernel)|(apply zE;decide +kernel)|(apply zF;decide +kernel)|(apply zL;decide +kernel)|(apply zM;decide +kernel)|(apply zN;intros)|(apply zO;intros)|(apply zT;omega)|(apply zU;omega)|(apply zP;omega;intros)|(apply zQ;omega;intros)|apply zR|(apply yA;omega)|(apply yB;omega)|(apply yC;omega)|(apply yD;omega)|(apply yE;omega)|(apply yF;omega)|(apply yG;omega)|(apply yH;omega)|(apply yI;omega)|(apply yJ;omega)|(apply yK;omega)|(apply yL;omega)|fail);cbv))
  obtain ⟨p,hp,hB⟩ := hat i.toNat (by omega)
  have hpm := List.mem_of_getElem? hp
  have hsz := hz p hpm
  have hml := much_le p.2
  have cN := muchq_cp p.2 (ho p hpm).2 hsz.2
  obtain ⟨M,hM0,hMb,hM⟩ : ∃ M : Int,0 ≤ M ∧ M ≤ 1048576 ∧ M.toNat = much p.2 := ⟨((much p.2 : Nat) : Int),by omega,by omega,by omega⟩
  rw [show ((much p.2 : Nat) : Int) = M by omega] at cN
  have hpt := ty_pure p.2
  have hstp := bmL_step hp (n := z.toNat) (by omega)
  obtain ⟨zs,hzs,hzs0,hzs1,hzs2⟩ : ∃ z : Int,(p.1.size : Int) = z ∧ 0 ≤ z ∧ z ≤ 1048576 ∧ z.toNat = p.1.size := ⟨_,rfl,by omega,by omega,by omega⟩
  have hnext : ∀ u v q r : Int,u = z + M -> q = zs / 8 -> v = u + q -> r = i + 1 -> 0 ≤ v ∧ v ≤ 9000000 ∧ bmL v.toNat (l.drop r.toNat) = bmL S l := fun u v q r hu hq hv hr => by
   refine ⟨by omega,by omega,?_⟩
   rw [show r.toNat = i.toNat + 1 by omega,show v.toNat = z.toNat + much p.2 + p.1.size / 8 by omega,← hstp]
   exact hI
  obtain ⟨k0,n0,m0,L0,K0,f0,f1,j1,j2⟩ := bn_node p
  rw [f1] at cN hpt
  rw [f0] at hB
  generalize p.1 = pn at hB hzs
  clear f0 f1 j1 j2 hstp hM hI hQ hzs2
  refine IdxK.intro h0 hB ?_
  cbv
  (repeat'((first|(apply zS;kernel_rfl)|(apply zD;decide +kernel)|(apply zE;decide +kernel)|(apply zF;decide +kernel)|(apply zL;decide +kernel)|(apply zM;decide +kernel)|(apply zN;intros)|(apply zO;intros)|(apply zT;omega)|(apply zU;omega)|(apply zP;omega;intros)|(apply zQ;omega;intros)|apply zR);cbv))
  refine .one cN (cons_pure hpt rfl) rfl ?_
  cbv
  (repeat'((first|(apply zS;kernel_rfl)|(apply zD;decide +kernel)|(apply zE;decide +kernel)|(apply zF;decide +kernel)|(apply zL;decide +kernel)|(apply zM;decide +kernel)|(apply zN;intros)|(apply zO;intros)|(apply zT;omega)|(apply zU;omega)|(apply zP;omega;intros)|(apply zQ;omega;intros)|apply zR);cbv))
  rename_i u hu
  refine IdxK.intro h0 hB ?_
  cbv
  (repeat'((first|(apply zS;kernel_rfl)|(apply zD;decide +kernel)|(apply zE;decide +kernel)|(apply zF;decide +kernel)|(apply zL;decide +kernel)|(apply zM;decide +kernel)|(apply zN;intros)|(apply zO;intros)|(apply zT;omega)|(apply zU;omega)|(apply zP;omega;intros)|(apply zQ;omega;intros)|apply zR);cbv))
  refine lenq_str hzs ?_
  cbv
  (repeat'((first|(apply zS;kernel_rfl)|(apply zD;decide +kernel)|(apply zE;decide +kernel)|(apply zF;decide +kernel)|(apply zL;decide +kernel)|(apply zM;decide +kernel)|(apply zN;intros)|(apply zO;intros)|(apply zT;omega)|(apply zU;omega)|(apply zP;omega;intros)|(apply zQ;omega;intros)|apply zR);cbv))
  refine quo_eight (by omega) fun q hq => ?_
  cbv
  (repeat'((first|(apply zS;kernel_rfl)|(apply zD;decide +kernel)|(apply zE;decide +kernel)|(apply zF;decide +kernel)|(apply zL;decide +kernel)|(apply zM;decide +kernel)|(apply zN;intros)|(apply zO;intros)|(apply zT;omega)|(apply zU;omega)|(apply zP;omega;intros)|(apply zQ;omega;intros)|apply zR);cbv))
  rename_i v hv r hr
  have hnext := hnext u v q r hu hq hv hr
  exact RoundK.next (r,v) ⟨by omega,by omega,hnext.1,hnext.2.1,hnext.2.2⟩ (by omega) rfl rfl
 have hend : z.toNat = bmL S l := by
  rw [← hI]
  by_cases h1 : z.toNat < 3000
  ·rw [List.drop_eq_nil_of_le (by omega)]
   simp [bmL]
  ·rw [bmL_stop _ h1]
 have hQ := fun h' => hQ z h' hz0 hend hzb
 have hloop : ¬ (i.toNat < l.length) ∨ (i.toNat < l.length ∧ ¬ z < 3000) := by omega
 clear hI hgo
 rcases hloop with hg5 | ⟨hg5,hg6⟩
 all_goals
  cbv
  (repeat'((first|(apply zS;kernel_rfl)|(apply zD;decide +kernel)|(apply zE;decide +kernel)|(apply zF;decide +kernel)|(apply zL;decide +kernel)|(apply zM;decide +kernel)|(apply zN;intros)|(apply zO;intros)|(apply zT;omega)|(apply zU;omega)|(apply zP;omega;intros)|(apply zQ;omega;intros)|apply zR|(apply yA;omega)|(apply yB;omega)|(apply yC;omega)|(apply yD;omega)|(apply yE;omega)|(apply yF;omega)|(apply yG;omega)|(apply yH;omega)|(apply yI;omega)|(apply yJ;omega)|(apply yK;omega)|(apply yL;omega)|fail);cbv))
  exact ⟨hQ _⟩
theorem binds14_cp (l : List Bd) (ho : okB l) (hl : l.length ≤ 1048576) (hz : ∀ p ∈ l,p.1.size ≤ 1048576 ∧ szT p.2 ≤ 1048576) : ∃ M : Int,0 ≤ M ∧ M.toNat = bindsN l ∧ M ≤ 9000000 ∧ CP (TT ()) 44 [.sl none 6 (bnsD l)] (· = .raw (.int .i64 M)) := by
 by_cases h : ((bindsN l : Nat) : Int) ≤ 9000000
 ·refine ⟨((bindsN l : Nat) : Int),by omega,by omega,h,?_⟩
  obtain ⟨M,hM⟩ : ∃ M : Int,M = ((bindsN l : Nat) : Int) := ⟨_,rfl⟩
  rw [← hM]
  exact c4_run fun Q hQ => binds14_run l ho hl hz Q fun z h' h0 h1 _ => by
   obtain rfl : z = M := by omega
   exact hQ h'
 ·exfalso
  have hb : ∀ (n : Nat) (m : List Bd),(∀ p ∈ m,p.1.size ≤ 1048576 ∧ szT p.2 ≤ 1048576) -> n ≤ 4000000 -> bmL n m ≤ 4000000 := fun n m => by
   induction m generalizing n with
   | nil => intro _ h;simpa [bmL] using h
   | cons p r ih =>
    intro hz hn
    simp only [bmL]
    split
    ·refine ih _ (fun q hq => hz q (List.mem_cons_of_mem _ hq)) ?_
     have := (hz p (List.mem_cons_self ..)).1
     have := (hz p (List.mem_cons_self ..)).2
     have := much_le p.2
     omega
    ·exact hn
  have := hb l.length l hz (by omega)
  unfold bindsN at h
  omega
def allN (d : Df) : Nat := muchE d.bd + bindsN d.sg.bs + bindsN d.sg.ps + much d.sg.rs + d.sg.nm.size / 8
theorem allN_size {d : Df} (h : allN d < 3000) : sizeN d ≤ allN d ∧ d.sg.bs.length ≤ 3000 ∧ d.sg.ps.length ≤ 3000 ∧ nodesE d.bd ≤ allN d := by
 unfold allN at h
 have h1 := muchE_nodes d.bd (by omega)
 have h2 := bmL_nodes d.sg.bs.length d.sg.bs (by unfold bindsN at h;omega)
 have h3 := bmL_nodes d.sg.ps.length d.sg.ps (by unfold bindsN at h;omega)
 have h4 := much_nodes d.sg.rs (by omega)
 have app : ∀ a b : List Ty5,nodesL (a ++ b) = nodesL a + nodesL b := fun a b => by
  induction a with
  | nil => simp [nodesL]
  | cons x r ih =>
   simp only [List.cons_append,nodesL,ih]
   omega
 have h5 : nodesL (sgTs d.sg) = nodesL (d.sg.bs.map Prod.snd) + (nodesL (d.sg.ps.map Prod.snd) + nodesT d.sg.rs) := by
  unfold sgTs
  rw [app,app]
  simp [nodesL]
 unfold sizeN allN bindsN at *
 omega
theorem all14_cp (d : Df) (hd : okD d) (hzb : szE d.bd ≤ 1048576) (hl1 : d.sg.bs.length ≤ 1048576) (hl2 : d.sg.ps.length ≤ 1048576) (h1 : ∀ p ∈ d.sg.bs,p.1.size ≤ 1048576 ∧ szT p.2 ≤ 1048576) (h2 : ∀ p ∈ d.sg.ps,p.1.size ≤ 1048576 ∧ szT p.2 ≤ 1048576) (h3 : szT d.sg.rs ≤ 1048576) (h4 : d.sg.nm.size ≤ 1048576) :
  ∃ M : Int,0 ≤ M ∧ M.toNat = allN d ∧ CP (TT ()) 24 [dfD d] (· = .raw (.int .i64 M)) := by
 obtain ⟨a,ha0,ha,hab,c1⟩ := binds14_cp d.sg.bs hd.1.2.1 hl1 h1
 obtain ⟨b,hb0,hb,hbb,c2⟩ := binds14_cp d.sg.ps hd.1.2.2.1 hl2 h2
 have hml := muchE_le d.bd
 have hml2 := much_le d.sg.rs
 obtain ⟨e,he0,he,heb⟩ : ∃ M : Int,0 ≤ M ∧ M.toNat = muchE d.bd ∧ M ≤ 1048576 := ⟨((muchE d.bd : Nat) : Int),by omega,by omega,by omega⟩
 have c3 := muchE_cp d.bd hd.2 hzb e he0 he
 have c4 := muchq_cp d.sg.rs hd.1.2.2.2 h3
 obtain ⟨t,ht0,ht,htb⟩ : ∃ M : Int,0 ≤ M ∧ M.toNat = much d.sg.rs ∧ M ≤ 1048576 := ⟨((much d.sg.rs : Nat) : Int),by omega,by omega,by omega⟩
 rw [show ((much d.sg.rs : Nat) : Int) = t by omega] at c4
 obtain ⟨zs,hzs,hzs0,hzs1,hzs2⟩ : ∃ z : Int,(d.sg.nm.size : Int) = z ∧ 0 ≤ z ∧ z ≤ 1048576 ∧ z.toNat = d.sg.nm.size := ⟨_,rfl,by omega,by omega,by omega⟩
 obtain ⟨M,hM,hM0⟩ : ∃ M : Int,M = e + a + b + t + zs / 8 ∧ 0 ≤ M := ⟨_,rfl,by omega⟩
 refine ⟨M,hM0,by unfold allN;omega,?_⟩
 have p1 := bns_pure d.sg.bs
 have p2 := bns_pure d.sg.ps
 have p3 := ex_pure d.bd
 have p4 := ty_pure d.sg.rs
 obtain ⟨⟨nm,bs,ps,k,n,tn,ls,ks⟩,ek,en,em,eh,et,el,ek'⟩ := d
 simp only [exD,tyD] at c1 c2 c3 c4 p1 p2 p3 p4 hzs
 clear hd hzb hl1 hl2 h1 h2 h3 h4 hml hml2 ha hb he ht hzs2
 simp only [dfD]
 generalize bnsD bs = B1 at c1 p1 ⊢
 generalize bnsD ps = B2 at c2 p2 ⊢
 generalize ls.map strD = L1 at c4 p4 ⊢
 generalize tysD ks = K1 at c4 p4 ⊢
 generalize tysD et = T2 at c3 p3 ⊢
 generalize el.map strD = L2 at c3 p3 ⊢
 generalize exsD ek' = K2 at c3 p3 ⊢
 refine c4_run fun Q hQ => ?_
 have hQ : ∀ z : Int,z = M -> ∀ h',Q (.raw (.int .i64 z)) h' := fun z hz h' => hz ▸ hQ h'
 cbv
 (repeat'((first|(apply zS;kernel_rfl)|(apply zD;decide +kernel)|(apply zE;decide +kernel)|(apply zF;decide +kernel)|(apply zL;decide +kernel)|(apply zM;decide +kernel)|(apply zN;intros)|(apply zO;intros)|(apply zT;omega)|(apply zU;omega)|(apply zP;omega;intros)|(apply zQ;omega;intros)|apply zR);cbv))
 refine .one c3 (cons_pure p3 rfl) rfl ?_
 cbv
 (repeat'((first|(apply zS;kernel_rfl)|(apply zD;decide +kernel)|(apply zE;decide +kernel)|(apply zF;decide +kernel)|(apply zL;decide +kernel)|(apply zM;decide +kernel)|(apply zN;intros)|(apply zO;intros)|(apply zT;omega)|(apply zU;omega)|(apply zP;omega;intros)|(apply zQ;omega;intros)|apply zR);cbv))
 refine .one c1 (by simp [pureL,pureD,p1]) rfl ?_
 cbv
 (repeat'((first|(apply zS;kernel_rfl)|(apply zD;decide +kernel)|(apply zE;decide +kernel)|(apply zF;decide +kernel)|(apply zL;decide +kernel)|(apply zM;decide +kernel)|(apply zN;intros)|(apply zO;intros)|(apply zT;omega)|(apply zU;omega)|(apply zP;omega;intros)|(apply zQ;omega;intros)|apply zR);cbv))
 refine .one c2 (by simp [pureL,pureD,p2]) rfl ?_
 cbv
 (repeat'((first|(apply zS;kernel_rfl)|(apply zD;decide +kernel)|(apply zE;decide +kernel)|(apply zF;decide +kernel)|(apply zL;decide +kernel)|(apply zM;decide +kernel)|(apply zN;intros)|(apply zO;intros)|(apply zT;omega)|(apply zU;omega)|(apply zP;omega;intros)|(apply zQ;omega;intros)|apply zR);cbv))
 refine .one c4 (cons_pure p4 rfl) rfl ?_
 cbv
 (repeat'((first|(apply zS;kernel_rfl)|(apply zD;decide +kernel)|(apply zE;decide +kernel)|(apply zF;decide +kernel)|(apply zL;decide +kernel)|(apply zM;decide +kernel)|(apply zN;intros)|(apply zO;intros)|(apply zT;omega)|(apply zU;omega)|(apply zP;omega;intros)|(apply zQ;omega;intros)|apply zR);cbv))
 refine lenq_str hzs ?_
 cbv
 (repeat'((first|(apply zS;kernel_rfl)|(apply zD;decide +kernel)|(apply zE;decide +kernel)|(apply zF;decide +kernel)|(apply zL;decide +kernel)|(apply zM;decide +kernel)|(apply zN;intros)|(apply zO;intros)|(apply zT;omega)|(apply zU;omega)|(apply zP;omega;intros)|(apply zQ;omega;intros)|apply zR);cbv))
 refine quo_eight (by omega) fun q hq => ?_
 cbv
 (repeat'((first|(apply zS;kernel_rfl)|(apply zD;decide +kernel)|(apply zE;decide +kernel)|(apply zF;decide +kernel)|(apply zL;decide +kernel)|(apply zM;decide +kernel)|(apply zN;intros)|(apply zO;intros)|(apply zT;omega)|(apply zU;omega)|(apply zP;omega;intros)|(apply zQ;omega;intros)|apply zR);cbv))
 exact ⟨hQ _ (by omega) _⟩
mutual
theorem atE_ok : ∀ (e : Ex7) (j : Nat) (x : Ex7),atE e j = some x -> (okE e -> okE x) ∧ nodesE x ≤ nodesE e
 | _,0,x,h => by simp [atE] at h
 | e,1,x,h => by
  simp only [atE,Option.some.injEq] at h
  subst h
  exact ⟨id,Nat.le_refl _⟩
 | .mk k n nm hs ts ls ks,j + 2,x,h => by
  simp only [atE] at h
  obtain ⟨h1,h2⟩ := atEL_ok ks j x h
  exact ⟨fun ho => h1 ho.2.2.2,by simp only [nodesE];omega⟩
theorem atEL_ok : ∀ (ks : List Ex7) (j : Nat) (x : Ex7),atEL ks j = some x -> (okE.okL ks -> okE x) ∧ nodesE x ≤ nodesEL ks
 | [],j,x,h => by simp [atEL] at h
 | t :: r,j,x,h => by
  simp only [atEL] at h
  split at h
  ·obtain ⟨h1,h2⟩ := atE_ok t (j + 1) x h
   exact ⟨fun ho => h1 ho.1,by simp only [nodesEL];omega⟩
  ·obtain ⟨h1,h2⟩ := atEL_ok r _ x h
   exact ⟨fun ho => h1 ho.2,by simp only [nodesEL];omega⟩
end
def ex0 : Ex7 := .mk 0 0 ⟨#[]⟩ false [] [] []
def atP (o : Option Ex7) : D := .tup [exD (o.getD ex0),.raw (.bool o.isSome)]
theorem atP_pure (o : Option Ex7) : pureD (atP o) = some (atP o) := by simp [atP,pureD,pureL,ex_pure]
theorem zero7_wk : Wk (.tup [.agg [.raw (.int .i64 0),.raw (.int .i64 0),.raw (.string ⟨#[]⟩),.raw (.bool false),.raw (.slice none 0 0),.raw (.slice none 0 0),.raw (.slice none 0 0)],.raw (.bool false)]) (atP none) :=
 .tup (.cons (.agg (.cons (.refl _) (.cons (.refl _) (.cons (.refl _) (.cons (.refl _) (.cons (nil_any 5) (.cons (nil_any 1) (.cons (nil_any 7) .nil)))))))) (.refl _))
theorem rat_run (k n : Int) (nm : ByteArray) (hs : Bool) (ts : List Ty5) (ls : List ByteArray) (ks : List Ex7) (hn : 1 + countEL ks ≤ 1000000)
  (hck : ∀ t ∈ ks,CP (TT ()) 17 [exD t] (· = .raw (.int .i64 (countE t))))
  (hc : ∀ t ∈ ks,∀ j : Int,1 ≤ j -> j ≤ 1000000 -> CP (TT ()) 9 [exD t,.raw (.int .i64 j)] (· = atP (atE t j.toNat)))
  (j : Int) (hj : j ≤ 9223372036854775807) (Q : D -> H -> Prop) (hQ : ∀ d h',Wk d (atP (atE (.mk k n nm hs ts ls ks) j.toNat)) -> Q d h') :
  wfun TT 9 [exD (.mk k n nm hs ts ls ks),.raw (.int .i64 j)] [] Q := by
 have hkl := countEL_len ks
 have hKl := exs_len ks
 have hKi := exs_idb ks
 have hKat := fun i => exs_at (ks := ks) (i := i)
 have hLi := strs_idb ls
 have hTi := tys_idb ts
 have q1 : j = 1 -> ∀ h',Q (.tup [exD (.mk k n nm hs ts ls ks),.raw (.bool true)]) h' := fun h h' => hQ _ h' (by subst h;exact .refl _)
 have q0 : j < 1 -> ∀ h',Q (.tup [.agg [.raw (.int .i64 0),.raw (.int .i64 0),.raw (.string ⟨#[]⟩),.raw (.bool false),.raw (.slice none 0 0),.raw (.slice none 0 0),.raw (.slice none 0 0)],.raw (.bool false)]) h' := fun h h' => hQ _ h' (by
  rw [show j.toNat = 0 by omega]
  exact zero7_wk)
 have qn : 2 ≤ j -> atEL ks (j.toNat - 2) = none -> ∀ h',Q (.tup [.agg [.raw (.int .i64 0),.raw (.int .i64 0),.raw (.string ⟨#[]⟩),.raw (.bool false),.raw (.slice none 0 0),.raw (.slice none 0 0),.raw (.slice none 0 0)],.raw (.bool false)]) h' := fun h e h' => hQ _ h' (by
  rw [show j.toNat = (j.toNat - 2) + 2 by omega]
  simp only [atE]
  rw [e]
  exact zero7_wk)
 have qy : 2 ≤ j -> ∀ o,atEL ks (j.toNat - 2) = o -> ∀ h',Q (atP o) h' := fun h o e h' => hQ _ h' (by
  rw [show j.toNat = (j.toNat - 2) + 2 by omega]
  simp only [atE]
  rw [e]
  exact .refl _)
 have hck : ∀ t ∈ ks,∀ M : Int,0 ≤ M -> M.toNat = countE t -> CP (TT ()) 17 [exD t] (· = .raw (.int .i64 M)) := fun t ht M h0 hM => by
  obtain rfl : M = ((countE t : Nat) : Int) := by omega
  exact hck t ht
 clear hQ
 simp only [exD] at q1 ⊢
 generalize ls.map strD = LS at q1 hLi ⊢
 generalize tysD ts = TS at q1 hTi ⊢
 generalize exsD ks = KS at q1 hKl hKi hKat ⊢
 cbv
 (repeat'((first|(apply zS;kernel_rfl)|(apply zD;decide +kernel)|(apply zE;decide +kernel)|(apply zF;decide +kernel)|(apply zL;decide +kernel)|(apply zM;decide +kernel)|(apply zN;intros)|(apply zO;intros)|(apply zT;omega)|(apply zU;omega)|(apply zP;omega;intros)|(apply zQ;omega;intros)|apply zR);cbv))
 refine BinK.eql ?_ ?_ <;> intro h1 <;> cbv <;> (repeat'((first|(apply zS;kernel_rfl)|(apply zD;decide +kernel)|(apply zE;decide +kernel)|(apply zF;decide +kernel)|(apply zL;decide +kernel)|(apply zM;decide +kernel)|(apply zN;intros)|(apply zO;intros)|(apply zT;omega)|(apply zU;omega)|(apply zP;omega;intros)|(apply zQ;omega;intros)|apply zR);cbv))
 ·exact ⟨q1 h1 _⟩
 refine BinK.lss ?_ ?_ <;> intro h2 <;> cbv <;> (repeat'((first|(apply zS;kernel_rfl)|(apply zD;decide +kernel)|(apply zE;decide +kernel)|(apply zF;decide +kernel)|(apply zL;decide +kernel)|(apply zM;decide +kernel)|(apply zN;intros)|(apply zO;intros)|(apply zT;omega)|(apply zU;omega)|(apply zP;omega;intros)|(apply zQ;omega;intros)|apply zR);cbv))
 ·exact ⟨q0 h2 _⟩
 have h2' : 2 ≤ j := by omega
 have qn := qn h2'
 have qy := qy h2'
 clear q1 q0
 refine LoopK.put (X := Int × Int) (fun x => [(6,.raw (.int .i64 x.2)),(7,.raw (.int .i64 x.1))]) (fun _ => []) (fun x => ks.length - x.1.toNat)
  (fun x => 0 ≤ x.1 ∧ x.1.toNat ≤ ks.length ∧ 2 ≤ x.2 ∧ x.2 ≤ j ∧ x.2.toNat = 2 + countEL (ks.take x.1.toNat) ∧ atEL ks (j.toNat - 2) = atEL (ks.drop x.1.toNat) (j.toNat - x.2.toNat)) (0,2) ⟨by simp,by simp,by simp,h2',by simp [countEL],rfl⟩ rfl rfl ?_
 rintro ⟨i,z⟩ N ⟨h0,hi,hz0,hzj,hz,hA⟩ hN
 simp only at h0 hi hz0 hzj hz hA hN ⊢
 have hzb : z ≤ 1000002 := by
  have := countEL_part ks i.toNat
  omega
 cbv
 (repeat'((first|(apply zS;kernel_rfl)|(apply zD;decide +kernel)|(apply zE;decide +kernel)|(apply zF;decide +kernel)|(apply zL;decide +kernel)|(apply zM;decide +kernel)|(apply zN;intros)|(apply zO;intros)|(apply zT;omega)|(apply zU;omega)|(apply zP;omega;intros)|(apply zQ;omega;intros)|apply zR);cbv))
 refine BinK.lss ?_ ?_ <;> intro hlt <;> cbv <;> (repeat'((first|(apply zS;kernel_rfl)|(apply zD;decide +kernel)|(apply zE;decide +kernel)|(apply zF;decide +kernel)|(apply zL;decide +kernel)|(apply zM;decide +kernel)|(apply zN;intros)|(apply zO;intros)|(apply zT;omega)|(apply zU;omega)|(apply zP;omega;intros)|(apply zQ;omega;intros)|apply zR);cbv))
 ·obtain ⟨t,ht,hK⟩ := hKat i.toNat (by omega)
  have hmem := List.mem_of_getElem? ht
  have cA := hc t hmem
  have hpt := ex_pure t
  have hst := countEL_step ht
  have hpart := countEL_part ks (i.toNat + 1)
  have hstep := atEL_step (j := j.toNat - z.toNat) ht
  obtain ⟨M,hM2,hM3,hM4⟩ : ∃ M : Int,0 ≤ M ∧ M ≤ 1000000 ∧ M.toNat = countE t := ⟨((countE t : Nat) : Int),by omega,by omega,by omega⟩
  have cN := hck t hmem M hM2 hM4
  have hyes : j < z + M -> ∀ r : Int,r = j - z + 1 -> atEL ks (j.toNat - 2) = atE t r.toNat := fun hlt r hr => by
   rw [hA,hstep,if_pos (by omega)]
   congr 1
   omega
  have hgo : z + M ≤ j -> ∀ s r : Int,s = z + M -> r = i + 1 -> s.toNat = 2 + countEL (ks.take r.toNat) ∧ atEL ks (j.toNat - 2) = atEL (ks.drop r.toNat) (j.toNat - s.toNat) := fun hle s r hs hr => by
   rw [hA,hstep,if_neg (by omega),show r.toNat = i.toNat + 1 by omega,hst]
   refine ⟨by omega,?_⟩
   congr 1
   omega
  have hpa := fun o => atP_pure o
  obtain ⟨k0,n0,m0,b0,T0,L0,K0,f0,_,_,_⟩ := ex_node t
  rw [f0] at cN cA hpt hK
  clear f0 hst hM4 hc hck hz hA hstep hpart
  refine IdxK.intro h0 hK ?_
  cbv
  (repeat'((first|(apply zS;kernel_rfl)|(apply zD;decide +kernel)|(apply zE;decide +kernel)|(apply zF;decide +kernel)|(apply zL;decide +kernel)|(apply zM;decide +kernel)|(apply zN;intros)|(apply zO;intros)|(apply zT;omega)|(apply zU;omega)|(apply zP;omega;intros)|(apply zQ;omega;intros)|apply zR);cbv))
  refine .one cN (cons_pure hpt rfl) rfl ?_
  cbv
  (repeat'((first|(apply zS;kernel_rfl)|(apply zD;decide +kernel)|(apply zE;decide +kernel)|(apply zF;decide +kernel)|(apply zL;decide +kernel)|(apply zM;decide +kernel)|(apply zN;intros)|(apply zO;intros)|(apply zT;omega)|(apply zU;omega)|(apply zP;omega;intros)|(apply zQ;omega;intros)|apply zR);cbv))
  rename_i s hs2
  refine BinK.lss ?_ ?_ <;> intro hjs <;> cbv <;> (repeat'((first|(apply zS;kernel_rfl)|(apply zD;decide +kernel)|(apply zE;decide +kernel)|(apply zF;decide +kernel)|(apply zL;decide +kernel)|(apply zM;decide +kernel)|(apply zN;intros)|(apply zO;intros)|(apply zT;omega)|(apply zU;omega)|(apply zP;omega;intros)|(apply zQ;omega;intros)|apply zR);cbv))
  ·refine IdxK.intro h0 hK ?_
   cbv
   (repeat'((first|(apply zS;kernel_rfl)|(apply zD;decide +kernel)|(apply zE;decide +kernel)|(apply zF;decide +kernel)|(apply zL;decide +kernel)|(apply zM;decide +kernel)|(apply zN;intros)|(apply zO;intros)|(apply zT;omega)|(apply zU;omega)|(apply zP;omega;intros)|(apply zQ;omega;intros)|apply zR);cbv))
   rename_i u hu v hv
   have e := hyes (by omega) v (by omega)
   have cA := cA v (by omega) (by omega)
   have qy := qy _ e
   have hpo := hpa (atE t v.toNat)
   generalize atE t v.toNat = o at cA qy hpo
   unfold atP at cA qy hpo
   obtain ⟨k1,n1,m1,b1,T1,L1,K1,f1,_,_,_⟩ := ex_node (o.getD ex0)
   rw [f1] at cA qy hpo
   generalize o.isSome = bo at cA qy hpo
   clear f1 e
   refine .one cA (cons_pure hpt rfl) hpo ?_
   cbv
   (repeat'((first|(apply zS;kernel_rfl)|(apply zD;decide +kernel)|(apply zE;decide +kernel)|(apply zF;decide +kernel)|(apply zL;decide +kernel)|(apply zM;decide +kernel)|(apply zN;intros)|(apply zO;intros)|(apply zT;omega)|(apply zU;omega)|(apply zP;omega;intros)|(apply zQ;omega;intros)|apply zR);cbv))
   exact ⟨qy _⟩
  ·rename_i s2 hs3 r hr
   have hgo := hgo (by omega) s2 r hs3 hr
   exact RoundK.next (r,s2) ⟨by omega,by omega,by omega,by omega,hgo.1,hgo.2⟩ (by omega) rfl rfl
 ·have hall : ks.drop i.toNat = [] := List.drop_eq_nil_of_le (by omega)
  rw [hall] at hA
  simp only [atEL] at hA
  exact ⟨qn hA _⟩
theorem rat_cp : ∀ e : Ex7,okE e -> nodesE e ≤ 1000000 -> ∀ j : Int,j ≤ 9223372036854775807 -> CP (TT ()) 9 [exD e,.raw (.int .i64 j)] (· = atP (atE e j.toNat)) := by
 refine ex_ind fun k n nm hs ts ls ks ih ho hn j hj => c4_runW (atP_pure _) fun Q hQ => ?_
 have hcn := count_nodesL ks
 simp only [nodesE] at hn
 refine rat_run k n nm hs ts ls ks (by omega) (fun t ht => ?_) (fun t ht j h1 h2 => ?_) j hj Q hQ
 ·have := nodesEL_mem ht
  exact rcountE_cp t (okEL_get ho.2.2.2 t ht) (by omega)
 ·have := nodesEL_mem ht
  exact ih t ht (okEL_get ho.2.2.2 t ht) (by omega) j (by omega)
end Go.Proofs.Ytglefhgcfijiaaa

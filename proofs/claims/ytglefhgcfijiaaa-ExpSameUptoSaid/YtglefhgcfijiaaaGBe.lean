/- Parts of the proof: PvY, PvZ, ExL. -/
import Derived.Test.YtglefhgcfijiaaaGBd
import Derived.Test.YtglefhgcfijiaaaGBc
import Derived.Test.YtglefhgcfijiaaaGAl
set_option linter.unusedSimpArgs false
set_option linter.unusedVariables false
set_option maxRecDepth 1000000
set_option maxHeartbeats 40000000
namespace Go.Proofs.Ytglefhgcfijiaaa.Pv
open Go Go.RowKit
section
variable {T : TP}
def ylist (T : TP) (ops : Array Oper) (R : D -> H -> Prop) : List Oper -> List D -> H -> (List D -> H -> Prop) -> Prop
 | [],ts,h,K => K ts h
 | o :: rest,ts,h,K => match o.guard with
  | none => yop T (ownB ops o) (dv ts) o h R fun d h' => ylist T ops R rest (putD ts o.dst d) h' K
  | some (j,want) => match (ops[j]?).bind (·.dst) with
   | some t => match ts[t]? with
    | some (.raw (.bool b)) => gcase b want (fun _ => yop T (ownB ops o) (dv ts) o h R fun d h' => ylist T ops R rest (putD ts o.dst d) h' K) (fun _ => ylist T ops R rest (putD ts o.dst (.raw undef)) h K)
    | some (.raw (.tuple _)) => ylist T ops R rest (putD ts o.dst (.raw undef)) h K
    | _ => False
   | none => ylist T ops R rest (putD ts o.dst (.raw undef)) h K
theorem ylist_sound {ops : Array Oper} {R : D -> H -> Prop} {Q : Exit -> Act -> World -> Prop} : ∀ {l : List Oper} {ts : List D} {h : H} {K : List D -> H -> Prop} {C : Cx} {w : World} {a : Act},ylist T ops R l ts h K -> Sim C h w -> TA C w ts a ->
  (∀ d h' a' C' w' v,R d h' -> Fw C w C' w' -> Sim C' h' w' -> Rd C' w' d v -> a'.defers = [] -> Q (.panic [{ v,recovered := false }]) a' w') ->
  (∀ ts' h' a' C' w',K ts' h' -> Fw C w C' w' -> Sim C' h' w' -> TA C' w' ts' a' -> Q .normal a' w') -> wpList (T ()) ops Q l a w
 | [],ts,h,K,C,w,a,e,s,ta,hp,hk => hk ts h a C w e (Fw.refl _ _) s ta
 | o :: rest,ts,h,K,C,w,a,e,s,ta,hp,hk => by
  unfold wpList
  have yes : wantedD ops ts o = some true -> yop T (ownB ops o) (dv ts) o h R (fun d h' => ylist T ops R rest (putD ts o.dst d) h' K) -> wpList (T ()) ops Q (o :: rest) a w := fun hw e1 => by
   unfold wpList
   rw [wantedD_sound ta hw]
   refine .inl (yop_sound s ta.reads e1 (fun d h' v C' w' e2 f s' r => ?_) fun d h' v C' w' q f s' r => hp d h' a C' w' v q f s' r ta.defers)
   exact ylist_sound e2 s' ((ta.mono f.toEv).put r _) (fun d h' a' C' w' v q f' s' r hd => hp d h' a' C' w' v q (f.trans f') s' r hd) fun ts2 h2 a' C2 w2 k f2 s2 t2 => hk ts2 h2 a' C2 w2 k (f.trans f2) s2 t2
  have no : wantedD ops ts o = some false -> ylist T ops R rest (putD ts o.dst (.raw undef)) h K -> wpList (T ()) ops Q (o :: rest) a w := fun hw e1 => by
   unfold wpList
   rw [wantedD_sound ta hw]
   exact ylist_sound e1 s (ta.put (show Rd C w (.raw undef) undef from rfl) _) hp hk
  have main : wpList (T ()) ops Q (o :: rest) a w := by
   simp only [ylist] at e
   split at e
   ·rename_i hg
    exact yes (by simp only [wantedD,hg]) e
   ·rename_i j want hg
    split at e
    ·rename_i t ht
     split at e
     ·rename_i b hb
      have hw : wantedD ops ts o = some (b == want) := by simp only [wantedD,hg,ht,hb]
      have e := gcase_eq e
      split at e
      ·rename_i hbw
       exact yes (by rw [hw,hbw]) e
      ·rename_i hbw
       exact no (by rw [hw];simpa using hbw) e
     ·rename_i x hb
      exact no (by simp only [wantedD,hg,ht,hb]) e
     ·exact e.elim
    ·rename_i ht
     exact no (by simp only [wantedD,hg,ht]) e
  unfold wpList at main
  exact main
structure XTCallK (T : TP) (k : FuncId) (ds : List D) (h : H) (K : D -> H -> Prop) (N : (D -> H -> Prop) -> Prop) : Prop where
 out : TCallK T k ds h K ∨ ∃ R,CX (T ()) k ds h (fun b d h' => b = false ∧ R d h') ∧ N R
def xstep (T : TP) (l : List Oper) (n : Nat) (ts vs : List D) (h : H) (o : Oper) (K : D -> H -> Prop) (N : (D -> H -> Prop) -> Prop) : Prop :=
 match o.guard,o.op with
 | none,.call c => match c.callee with
  | .value f => match fnD (lval l n ts vs o f) with
   | some (k,first,cap) => XTCallK T k (first ++ c.args.toList.map (lval l n ts vs o) ++ cap) h K N
   | none => False
  | _ => wtstep T l n ts vs h o K
 | _,_ => wtstep T l n ts vs h o K
structure XDoneK (T : TP) (l : List Oper) (n : Nat) (ts vs : List D) (hst : List H) (free : List Nat) (go : Unit -> Prop) : Prop where
 out : ordX l n n free = true ∧ FreeX (T ()) l n n ts vs hst free ∧ go ()
structure XPanK (T : TP) (l : List Oper) (n : Nat) (ts vs : List D) (hst : List H) (free : List Nat) (R R0 : D -> H -> Prop) : Prop where
 out : (vs.length < n ∧ ordX l n (min (vs.length + 1) n) free = true ∧ ((List.range n).all fun k => decide (k ≤ vs.length) || ((ancL l n n).getD k []).contains vs.length) = true) ∧ FreeX (T ()) l n vs.length ts vs hst free ∧ ∀ d h',R0 d h' -> R d h'
def xrun (T : TP) (l : List Oper) (n : Nat) (ts : List D) (free : List Nat) (R : D -> H -> Prop) (K : List D -> H -> Prop) : Nat -> List D -> List H -> H -> Prop
 | 0,vs,hst,h => XDoneK T l n ts vs hst free fun _ => ylist T l.toArray R (l.drop n) (lputs l vs n ts) h K
 | r + 1,vs,hst,h => match l[vs.length]? with
  | some o => xstep T l n ts vs h o (fun d h' => xrun T l n ts free R K r (vs ++ [d]) (hst ++ [h']) h') (XPanK T l n ts vs hst free R)
  | none => False
theorem xstep_ok {l : List Oper} {n : Nat} {ts vs : List D} {h : H} {o : Oper} {K : D -> H -> Prop} {N : (D -> H -> Prop) -> Prop} (e : xstep T l n ts vs h o K N) :
  (∃ d h',TStep (T ()) l n ts vs h o d h' ∧ K d h') ∨ ∃ R,(isTurn o = true ∧ lwanted l vs o = some true ∧ PanicsP (T ()) (lval l n ts vs o) o h R) ∧ N R := by
 unfold xstep at e
 split at e
 ·rename_i c hg ho
  split at e
  ·rename_i f hc
   split at e
   ·rename_i k first cap hf
    have hw : lwanted l vs o = some true := by simp only [lwanted,hg]
    have hturn : isTurn o = true := by
     unfold isTurn
     rw [ho]
     simp only [hc]
    rcases e.out with e | ⟨R,⟨hcal,hret⟩,hN⟩
    ·refine .inl (wtstep_ok ?_)
     unfold wtstep
     simp only [hg,hturn,if_true]
     unfold wturn
     rw [if_neg (by rw [ho];simp [isBoxOp])]
     simp only [ho,hc,hf]
     exact e
    ·refine .inr ⟨R,⟨hturn,hw,⟨fun C w a s hr Rw Q hq => ?_⟩⟩,hN⟩
     obtain ⟨callee,args,argTypes⟩ := c
     simp only at hc
     subst hc
     obtain ⟨x,y,hev,hargs⟩ := call_args (args := args) hr hf
     unfold Oper.wp
     rw [call_run ho hev hcal,Oper.upon_enter]
     refine Calls.mono (hret C w _ s hargs) ?_
     rintro e' w' ⟨b,v,C',d,h',rfl,⟨rfl,k0⟩,k1,k2,k3⟩
     exact hq d h' v C' w' k0 k1 k2 k3
   ·exact e.elim
  ·exact .inl (wtstep_ok e)
 ·exact .inl (wtstep_ok e)
theorem xrun_ok (hm : (T ()).follows .mixedOrders = true) {l : List Oper} {n : Nat} {ts : List D} {free : List Nat} {R : D -> H -> Prop} {K : List D -> H -> Prop} (h4 : headB .any l.toArray n = true ∧ dstsB l.toArray n ts.length = true ∧ waitsB l n = true) {h0 : H} :
  ∀ {r : Nat} {vs : List D} {hst : List H} {h : H},xrun T l n ts free R K r vs hst h -> vs.length + r = n -> hst.length = vs.length + 1 -> hst.getD 0 [] = h0 -> hst.getD vs.length [] = h ->
  (∀ i,i < vs.length -> ∃ o d,l[i]? = some o ∧ vs[i]? = some d ∧ TStep (T ()) l n ts (vs.take i) (hst.getD i []) o d (hst.getD (i + 1) [])) ->
  ∀ (id : Nat) {C : Cx} {w : World} {a0 : Act} {Q : Exit -> Act -> World -> Prop},Sim C h0 w -> TA C w ts a0 ->
  (∀ d h' a' C' w' v,R d h' -> Fw C w C' w' -> Sim C' h' w' -> Rd C' w' d v -> a'.defers = [] -> Q (.panic [{ v,recovered := false }]) a' w') ->
  (∀ ts' h' a' C' w',K ts' h' -> Fw C w C' w' -> Sim C' h' w' -> TA C' w' ts' a' -> Q .normal a' w') -> (Code.region id l.toArray true).wp (T ()) Q a0 w
 | 0,vs,hst,h,e,hn,hl,hz,hh,hsp => fun id {C w a0 Q} s ta hp hk => by
  have hvn : vs.length = n := by omega
  obtain ⟨h5,h6,h7⟩ := e.out
  refine aturnX_core (Rp := R) hm (Nat.le_refl n) ⟨hvn,by omega,hz,fun i hi => hsp i (by omega)⟩ ⟨h4.1,h4.2.1,h4.2.2,by rw [Nat.min_eq_right (Nat.le_succ n)];exact h5⟩ h6 (fun h => absurd h (Nat.lt_irrefl _)) id s ta hp fun _ a' C' w' f' s' t' => ?_
  rw [← hvn,hh] at s'
  exact ylist_sound h7 s' t' (fun d h' a' C' w' v q f2 s2 r hd => hp d h' a' C' w' v q (f'.trans f2) s2 r hd) fun ts' h' a' C' w' k f2 s2 t2 => hk ts' h' a' C' w' k (f'.trans f2) s2 t2
 | r + 1,vs,hst,h,e,hn,hl,hz,hh,hsp => fun id {C w a0 Q} s ta hp hk => by
  simp only [xrun] at e
  split at e
  ·rename_i o ho
   rcases xstep_ok e with ⟨d,h',k1,k2⟩ | ⟨R0,⟨q1,q2,q3⟩,q4⟩
   ·have keep : ∀ q,q < vs.length + 1 -> (hst ++ [h']).getD q [] = hst.getD q [] := fun q hq => by simp [List.getD,List.getElem?_append_left (show q < hst.length by omega)]
    have last : (hst ++ [h']).getD (vs.length + 1) [] = h' := by simp [List.getD,List.getElem?_append_right (show hst.length ≤ vs.length + 1 by omega),hl]
    refine xrun_ok hm h4 (h0 := h0) k2 (by simp;omega) (by simp [hl]) (by rw [keep 0 (by omega)];exact hz) (by simpa using last) (fun i hi => ?_) id s ta hp hk
    by_cases hlt : i < vs.length
    ·obtain ⟨o',d',j1,j2,j3⟩ := hsp i hlt
     refine ⟨o',d',j1,by rw [List.getElem?_append_left hlt];exact j2,?_⟩
     rw [List.take_append_of_le_length (by omega),keep i (by omega),keep (i + 1) (by omega)]
     exact j3
    ·have : i = vs.length := by simp at hi;omega
     subst this
     refine ⟨o,d,ho,by rw [List.getElem?_append_right (Nat.le_refl _)];simp,?_⟩
     rw [List.take_append_of_le_length (Nat.le_refl _),List.take_of_length_le (Nat.le_refl _),keep _ (by omega),last,hh]
     exact k1
   ·obtain ⟨⟨h5,h6,h7⟩,h8,h9⟩ := q4.out
    refine aturnX_core (Rp := R0) hm (Nat.le_of_lt h5) ⟨rfl,hl,hz,hsp⟩ ⟨h4.1,h4.2.1,h4.2.2,h6⟩ h8 (fun _ => ⟨⟨o,ho,q1,q2,by rw [hh];exact q3⟩,fun k hk1 hk2 => ?_⟩) id s ta (fun d h' a' C' w' v q f' s' r hd => hp d h' a' C' w' v (h9 d h' q) f' s' r hd) fun hmn => absurd hmn (by omega)
    have := List.all_eq_true.1 h7 k (List.mem_range.2 hk2)
    simp only [Bool.or_eq_true,decide_eq_true_eq] at this
    exact this.resolve_left (by omega)
  ·exact e.elim
structure YDrawK (T : TP) (l : List Oper) (ts : List D) (h : H) (R : D -> H -> Prop) (K : List D -> H -> Prop) : Prop where
 out : DrawK T l ts h K ∨ ∃ n free,(headB .any l.toArray n = true ∧ dstsB l.toArray n ts.length = true ∧ waitsB l n = true) ∧ xrun T l n ts free R K n [] [h] h
def yx (T : TP) (R : D -> H -> Prop) : Code -> List D -> H -> (AExit -> List D -> H -> Prop) -> Prop
 | .skip,ts,h,Q => Q .normal ts h
 | .region _ ops draw,ts,h,Q => if draw = true then (if lineFirst ops.toList = true then LineK T ops.toList ts h (fun ts' h' => Q .normal ts' h') else YDrawK T ops.toList ts h R (fun ts' h' => Q .normal ts' h')) else ylist T ops R ops.toList ts h (fun ts' h' => Q .normal ts' h')
 | .seq a b,ts,h,Q => yx T R a ts h fun ex ts' h' => match ex with
  | .normal => yx T R b ts' h' Q
  | .exit j => Q (.exit j) ts' h'
  | .ret => Q .ret ts' h'
 | .cond c x y,ts,h,Q => match dv ts c with
  | .raw (.bool t) => bcase t (fun _ => yx T R x ts h Q) (fun _ => yx T R y ts h Q)
  | _ => False
 | .block id c,ts,h,Q => yx T R c ts h fun ex ts' h' => match ex with
  | .normal => Q .normal ts' h'
  | .exit j => if j = id then Q .normal ts' h' else Q (.exit j) ts' h'
  | .ret => Q .ret ts' h'
 | .loop c,ts,h,Q => LoopK (dstsOf c) (scrub (dstsOf c) ts) h (fun ts' h' R' => yx T R c ts' h' R') Q
 | .exit id,ts,h,Q => Q (.exit id) ts h
 | .label _,ts,h,Q => Q .normal ts h
 | .ret,ts,h,Q => Q .ret ts h
 | _,_,_,_ => False
theorem yx_sound (hm : (T ()).follows .mixedOrders = true) {R : D -> H -> Prop} : ∀ (c : Code) {ts : List D} {h : H} {K : AExit -> List D -> H -> Prop},yx T R c ts h K -> ∀ {C : Cx} {w : World} {a : Act} {Q : Exit -> Act -> World -> Prop},Sim C h w -> TA C w ts a ->
  (∀ d h' a' C' w' v,R d h' -> Fw C w C' w' -> Sim C' h' w' -> Rd C' w' d v -> a'.defers = [] -> Q (.panic [{ v,recovered := false }]) a' w') -> (∀ ex ts' h' a' C' w',K ex ts' h' -> Fw C w C' w' -> Sim C' h' w' -> TA C' w' ts' a' -> Q ex.ex a' w') -> c.wp (T ()) Q a w := by
 intro c
 induction c with
 | skip => intro ts h K e C w a Q s ta hp hk;exact wp_skip (hk _ _ _ a C w e (Fw.refl _ _) s ta)
 | region id ops draw =>
  intro ts h K e C w a Q s ta hp hk
  simp only [yx] at e
  cases draw with
  | false =>
   rw [if_neg (by simp)] at e
   exact wp_region_list (ylist_sound e s ta hp fun ts' h' a' C' w' k f' s' t' => hk _ _ _ a' C' w' k f' s' t')
  | true =>
   rw [if_pos rfl] at e
   split at e
   ·rcases e.out with ⟨n,h4,e⟩ | e
    ·obtain ⟨vs,hst,k1,k2⟩ := wlrun_ok (h0 := h) e (by simp) (by simp) (by simp) (by simp) (fun i hi => absurd hi (Nat.not_lt_zero _))
     have := aline_core hm k1 h4 id s ta fun a1 C1 w1 f1 s1 t1 => wlist_sound k2 s1 t1 fun ts' h' a' C' w' k f' s' t' => hk _ _ _ a' C' w' k (f1.trans f') s' t'
     simpa using this
    ·have := e id C w a Q s ta fun ts' h' a' C' w' k f' s' t' => hk _ _ _ a' C' w' k f' s' t'
     simpa using this
   ·rename_i hnl
    rcases e.out with e | ⟨n,free,h4,e⟩
    ·skip
     exact wx_sound hm (.region id ops true) (K := K) (by simp only [wx];rw [if_pos trivial,if_neg hnl];exact e) s ta hk
    ·have := xrun_ok hm h4 (h0 := h) e (by simp) (by simp) (by simp) (by simp) (fun i hi => absurd hi (Nat.not_lt_zero _)) id s ta hp fun ts' h' a' C' w' k f' s' t' => hk _ _ _ a' C' w' k f' s' t'
     simpa using this
 | seq x y ihx ihy =>
  intro ts h K e C w a Q s ta hp hk
  simp only [yx] at e
  refine wp_seq (ihx e s ta (fun d h' a' C' w' v q f' s' r hd => hp d h' a' C' w' v q f' s' r hd) fun ex ts1 h1 a1 C1 w1 k f1 s1 t1 => ?_)
  cases ex with
  | normal => exact ihy k s1 t1 (fun d h' a' C' w' v q f' s' r hd => hp d h' a' C' w' v q (f1.trans f') s' r hd) fun ex ts' h' a' C' w' k' f' s' t' => hk ex ts' h' a' C' w' k' (f1.trans f') s' t'
  | exit j => exact hk _ _ _ a1 C1 w1 k f1 s1 t1
  | ret => exact hk _ _ _ a1 C1 w1 k f1 s1 t1
 | cond c x y ihx ihy =>
  intro ts h K e C w a Q s ta hp hk
  simp only [yx] at e
  split at e
  ·rename_i t hc
   have hcv := ta.reads c
   rw [hc] at hcv
   simp only [Rd] at hcv
   have e := bcase_eq e
   refine wp_cond_split hcv (fun ht => ?_) fun ht => ?_
   ·subst ht
    rw [if_pos rfl] at e
    exact ihx e s ta hp hk
   ·subst ht
    rw [if_neg (by simp)] at e
    exact ihy e s ta hp hk
  ·exact e.elim
 | block id c ih =>
  intro ts h K e C w a Q s ta hp hk
  simp only [yx] at e
  refine wp_block (ih e s ta (fun d h' a' C' w' v q f' s' r hd => hp d h' a' C' w' v q f' s' r hd) fun ex ts1 h1 a1 C1 w1 k f1 s1 t1 => ?_)
  cases ex with
  | normal => exact hk _ _ _ a1 C1 w1 k f1 s1 t1
  | exit j =>
   simp only at k
   by_cases hj : j = id
   ·rw [if_pos hj] at k
    simp only [AExit.ex,Exit.inBlock,if_pos hj]
    exact hk _ _ _ a1 C1 w1 k f1 s1 t1
   ·rw [if_neg hj] at k
    simp only [AExit.ex,Exit.inBlock,if_neg hj]
    exact hk _ _ _ a1 C1 w1 k f1 s1 t1
  | ret => exact hk _ _ _ a1 C1 w1 k f1 s1 t1
 | loop c ih =>
  intro ts h K e C w a Q s ta hp hk
  simp only [yx] at e
  obtain ⟨m,I,he,hr⟩ := e.out
  obtain ⟨C1,ts1,h1,⟨hlen,N,hI⟩,f1,s1,t1⟩ := he C w a s (ta.scrub _)
  have hb0 : ∀ id b,C1.bx id = some b -> id < m := fun id b hb => Nat.lt_of_lt_of_le (s1.idb id b hb) hlen
  have hl0 : ∀ id u,C1.lg id = some u -> id < m := fun id u hu => Nat.lt_of_lt_of_le (s1.idl id u hu) hlen
  have main : ∀ (n N : Nat) (ts : List D) (h : H) (C2 : Cx) (w2 : World) (a2 : Act),N < n -> I N ts h -> Fw C1 w C2 w2 -> Sim C2 h w2 -> TA C2 w2 ts a2 -> Code.rounds (T ()) c Q n a2 w2 := by
   intro n
   induction n with
   | zero => intro N ts h C2 w2 a2 hN;omega
   | succ n ihn =>
    intro N ts h C2 w2 a2 hN hI f2 s2 t2
    unfold Code.rounds
    refine ih (hr N ts h hI) s2 t2 (fun d h' a' C' w' v q f' s' r hd => hp d h' a' C' w' v q (f1.trans (f2.trans f')) s' r hd) fun ex ts3 h3 a3 C3 w3 k f3 s3 t3 => ?_
    cases ex with
    | normal =>
     obtain ⟨N',hN',hw⟩ := k.out
     obtain ⟨C4,ts4,h4,k1,k2,k3,k4⟩ := hw C1 w C3 w3 a3 hb0 hl0 (f2.trans f3) s3 (t3.scrub _)
     exact ihn N' ts4 h4 C4 w3 a3 (by omega) k1 k2 k3 k4
    | exit j => exact hk _ _ _ a3 C3 w3 k (f1.trans (f2.trans f3)) s3 t3
    | ret => exact hk _ _ _ a3 C3 w3 k (f1.trans (f2.trans f3)) s3 t3
  exact wp_loop_rounds (N + 1) (main (N + 1) N ts1 h1 C1 w a (by omega) hI (Fw.refl _ _) s1 t1)
 | exit id => intro ts h K e C w a Q s ta hp hk;exact wp_exit (hk _ _ _ a C w e (Fw.refl _ _) s ta)
 | label l => intro ts h K e C w a Q s ta hp hk;exact wp_label (hk _ _ _ a C w e (Fw.refl _ _) s ta)
 | ret => intro ts h K e C w a Q s ta hp hk;exact wp_ret (hk _ _ _ a C w e (Fw.refl _ _) s ta)
 | _ => intros;rename_i e _ _ _ _ _ _ _ _;simp [yx] at e
def yfun (T : TP) (k : FuncId) (ds : List D) (h : H) (Q : Bool -> D -> H -> Prop) : Prop :=
 match (T ()).funcs[k]? with
 | some fn => match fn.body with
  | some c => if (fn.name == "runtime.NumGoroutine") = false then
    yx T (fun d h' => EndK (Q false) d h') c (ds ++ List.replicate (fn.ntmps - ds.length) (.raw undef)) h fun ex ts' h' => match ex with
     | .exit _ => False
     | _ => match resD (T ()) h' ts' fn.results.toList with
      | some l => EndK (Q true) (oneD l) h'
      | none => False
   else False
  | none => False
 | none => False
theorem yfun_ok (hm : (T ()).follows .mixedOrders = true) {k : FuncId} {ds : List D} {h : H} {K : Bool -> D -> H -> Prop} (e : yfun T k ds h K) : CX (T ()) k ds h K := by
 unfold yfun at e
 split at e
 ·rename_i fn hf
  split at e
  ·rename_i c hb
   split at e
   ·rename_i hname
    refine ⟨⟨fn,c,hf,hname,hb⟩,fun C w args s r => ?_⟩
    refine calls_of_wp hf hb (yx_sound hm c e s (a := { tmps := args.toArray ++ Array.replicate (fn.ntmps - args.toArray.size) undef,defers := [] }) ⟨?_,rfl⟩ (fun d h' a' C' w' v q f' s' r' hd => ⟨hd,false,v,C',d,h',rfl,q.out,f',s',r'⟩) fun ex ts' h' a' C' w' k f' s' t' => ?_)
    ·have hl := r.len
     simp only [Array.toList_append,Array.toList_replicate,List.size_toArray,← hl]
     refine r.app ?_
     have := RdL.raws C w (List.replicate (fn.ntmps - ds.length) undef)
     simpa using this
    ·have main : (match resD (T ()) h' ts' fn.results.toList with | some l => EndK (K true) (oneD l) h' | none => False) -> bodyPost (T ()) fn (fun e w'' => ∃ b v C'' d h',e = endOf b v ∧ K b d h' ∧ Fw C w C'' w'' ∧ Sim C'' h' w'' ∧ Rd C'' w'' d v) .ret a' w' := fun k => by
      split at k
      ·rename_i l hl
       obtain ⟨vs,k1,k2⟩ := resD_sound s' t' hl
       exact ⟨t'.defers,_,run_results k1,true,_,C',_,h',rfl,k.out,f',s',oneD_rd k2⟩
      ·exact k.elim
     cases ex with
     | normal => exact main k
     | ret => exact main k
     | exit j => exact k.elim
   ·exact e.elim
  ·exact e.elim
 ·exact e.elim
end
theorem CX.frame {P : Program} {k : FuncId} {ds0 ds : List D} {h0 h : H} {Q0 : Bool -> D -> H -> Prop} (f : Nat -> Nat) (c : CX P k ds0 h0 Q0)
  (hds : ds = renL f ds0) (hid : idbL h0.length ds0 = true) (hcells : h0.all (cellIdb h0.length) = true) (hinj : ∀ i j,i < h0.length -> j < h0.length -> f i = f j -> i = j)
  (hh : ∀ i,i < h0.length -> (h0[i]?).map (renC f) = h[f i]?)
  (hq : ∀ bo d h',Q0 bo d h' -> h'.length = h0.length ∧ idb h0.length d = true ∧ h'.all (cellIdb h0.length) = true) :
  CX P k ds h fun bo d h' => ∃ d0 h0',Q0 bo d0 h0' ∧ d = renD f d0 ∧ h' = mergeH f h h0' := by
 refine ⟨c.1,fun C w args s r => ?_⟩
 let C0 : Cx := ⟨C.S,fun i => if i < h0.length then C.bx (f i) else none,fun i => if i < h0.length then C.lg (f i) else none⟩
 have hren : RenCx f h0.length C0 C := ⟨fun _ _ => Iff.rfl,fun i hi => if_pos hi,fun i hi => if_pos hi⟩
 have hblk : ∀ {i b},C0.blk i b -> i < h0.length ∧ C.blk (f i) b := fun {i b} hb => by
  rcases hb with hb | ⟨u,hb,hu⟩
  ·simp only [C0] at hb
   split at hb
   ·rename_i hi;exact ⟨hi,.inl hb⟩
   ·cases hb
  ·simp only [C0] at hb
   split at hb
   ·rename_i hi;exact ⟨hi,.inr ⟨u,hb,hu⟩⟩
   ·cases hb
 have hcell : ∀ {i c},h0[i]? = some c -> cellIdb h0.length c = true := fun {i c} e => List.all_eq_true.1 hcells c (List.mem_of_getElem? e)
 have hlt0 : ∀ {i c},h0[i]? = some c -> i < h0.length := fun {i c} e => (List.getElem?_eq_some_iff.1 e).1
 have s0 : Sim C0 h0 w := by
  refine ⟨s.S,fun i t ds e => ?_,fun i e sz n e' => ?_,fun i b hb => s.lt _ b (hblk hb).2,fun i b hb => (hblk (.inl hb)).1,fun i u hu => ?_,fun i j b hi hj => ?_,fun i b hb => ?_,fun i b P e => ?_⟩
  ·have := hh i (hlt0 e)
   rw [e] at this
   obtain ⟨b,vs,k1,k2,k3,k4,k5⟩ := s.box (f i) t _ this.symm
   exact ⟨b,vs,(hren.bx i (hlt0 e)).trans k1,k2,(ren_rdL hren ds (by have := hcell e;simpa [cellIdb] using this)).2 k3,k4,k5⟩
  ·have := hh i (hlt0 e')
   rw [e'] at this
   obtain ⟨u,xs,k1,k2,k3⟩ := s.log (f i) e sz n this.symm
   exact ⟨u,xs,(hren.lg i (hlt0 e')).trans k1,k2,k3⟩
  ·simp only [C0] at hu
   split at hu
   ·assumption
   ·cases hu
  ·obtain ⟨h1,h2⟩ := hblk hi
   obtain ⟨h3,h4⟩ := hblk hj
   exact hinj i j h1 h3 (s.inj _ _ b h2 h4)
  ·have hi := (hblk (.inl hb)).1
   rw [hren.bx i hi] at hb
   rw [hren.lg i hi]
   exact s.one _ b hb
  ·have := hh i (hlt0 e)
   rw [e] at this
   obtain ⟨k1,k2,k3⟩ := s.keep (f i) b P this.symm
   exact ⟨(hren.bx i (hlt0 e)).trans k1,k2,k3⟩
 rw [hds] at r
 refine (c.2 C0 w args s0 ((ren_rdL hren ds0 hid).2 r)).mono ?_
 rintro e w' ⟨bo,v,C0',d0,h0',he,hQ,fw,s0',r0⟩
 obtain ⟨hlen,hdid,hcid⟩ := hq bo d0 h0' hQ
 let C' : Cx := ⟨C0'.S,fun id => match idxOf f id h0.length with | some i => C0'.bx i | none => C.bx id,fun id => match idxOf f id h0.length with | some i => C0'.lg i | none => C.lg id⟩
 have idx : ∀ i,i < h0.length -> idxOf f (f i) h0.length = some i := fun i hi => by
  cases hx : idxOf f (f i) h0.length with
  | none => exact absurd rfl (idxOf_none hx i hi)
  | some j =>
   obtain ⟨h1,h2⟩ := idxOf_some hx
   rw [hinj j i h1 hi h2]
 have hren' : RenCx f h0.length C0' C' := ⟨fun _ _ => Iff.rfl,fun i hi => by simp only [C',idx i hi],fun i hi => by simp only [C',idx i hi]⟩
 have blk' : ∀ {id b},C'.blk id b -> (∃ i,i < h0.length ∧ f i = id ∧ C0'.blk i b) ∨ ((∀ i,i < h0.length -> f i ≠ id) ∧ C.blk id b) := fun {id b} hb => by
  cases hx : idxOf f id h0.length with
  | none =>
   refine .inr ⟨idxOf_none hx,?_⟩
   rcases hb with hb | ⟨u,hb,hu⟩
   ·simp only [C',hx] at hb;exact .inl hb
   ·simp only [C',hx] at hb;exact .inr ⟨u,hb,hu⟩
  | some i =>
   obtain ⟨h1,h2⟩ := idxOf_some hx
   refine .inl ⟨i,h1,h2,?_⟩
   rcases hb with hb | ⟨u,hb,hu⟩
   ·simp only [C',hx] at hb;exact .inl hb
   ·simp only [C',hx] at hb;exact .inr ⟨u,hb,hu⟩
 have apart : ∀ {id b},C.blk id b -> (∀ i,i < h0.length -> f i ≠ id) -> ∀ i,¬ C0.blk i b := fun {id b} hb hne i hi => by
  obtain ⟨h1,h2⟩ := hblk hi
  exact hne i h1 (s.inj _ _ b h2 hb)
 have stands : ∀ {id b},C.blk id b -> (∀ i,i < h0.length -> f i ≠ id) -> w'.heap[b]? = w.heap[b]? := fun {id b} hb hne => fw.frame b (s.lt id b hb) (apart hb hne)
 have noS : ∀ {id b},C.blk id b -> (∀ i,i < h0.length -> f i ≠ id) -> ∀ o,C0'.S b o -> C.S b o := fun {id b} hb hne o hs => by
  rcases fw.new b o hs (s.lt id b hb) with h1 | ⟨i,h1⟩
  ·exact h1
  ·exact absurd h1 (apart hb hne i)
 have ev : Ev C w C' w' := by
  refine ⟨fw.os,fw.tape,fw.output,fw.size,fun b o hs => fw.sub b o hs,fun b o hs => fw.cell b o hs,fun id b hb => ?_,fun id u hu => ?_⟩
  ·cases hx : idxOf f id h0.length with
   | none => simp only [C',hx];exact hb
   | some i =>
    obtain ⟨h1,rfl⟩ := idxOf_some hx
    simp only [C',hx]
    exact fw.bx i b ((hren.bx i h1).trans hb)
  ·cases hx : idxOf f id h0.length with
   | none => simp only [C',hx];exact ⟨u,hu,.inl rfl⟩
   | some i =>
    obtain ⟨h1,rfl⟩ := idxOf_some hx
    simp only [C',hx]
    exact fw.lg i u ((hren.lg i h1).trans hu)
 have fw' : Fw C w C' w' := by
  refine ⟨ev,fun b hb hn => fw.frame b hb fun i hi => hn _ (hblk hi).2,fun id b hk hb => ?_,fun b o hs hb => ?_⟩
  ·rcases blk' hk with ⟨i,h1,h2,h3⟩ | ⟨_,h1⟩
   ·obtain ⟨i',h4⟩ := fw.own i b h3 hb
    exact ⟨_,(hblk h4).2⟩
   ·exact ⟨id,h1⟩
  ·rcases fw.new b o hs hb with h1 | ⟨i,h1⟩
   ·exact .inl h1
   ·exact .inr ⟨_,(hblk h1).2⟩
 have hmlen : (mergeH f h h0').length = h.length := by simp [mergeH]
 have fid : ∀ {i},i < h0.length -> f i < h.length := fun {i} hi => by
  have := hh i hi
  rw [List.getElem?_eq_getElem hi] at this
  exact (List.getElem?_eq_some_iff.1 this.symm).1
 refine ⟨bo,v,C',renD f d0,mergeH f h h0',he,⟨d0,h0',hQ,rfl,rfl⟩,fw',⟨s0'.S,fun id t ds e => ?_,fun id e sz n e' => ?_,fun id b hb => ?_,fun id b hb => ?_,fun id u hu => ?_,fun id id' b hb hb' => ?_,fun id b hb => ?_,fun id b P e => ?_⟩,(ren_rd hren' d0 hdid).1 r0⟩
 ·rcases mergeH_get e with ⟨i,h1,rfl,c0,h2,h3⟩ | ⟨h1,h2⟩
  ·cases c0 with
   | log _ _ _ => cases h3
   | dead => cases h3
   | keep _ _ => cases h3
   | box t0 ds0' =>
    simp only [renC,Cell.box.injEq] at h3
    obtain ⟨rfl,rfl⟩ := h3
    obtain ⟨b,vs,k1,k2,k3,k4,k5⟩ := s0'.box i _ _ h2
    rw [hlen] at h1
    refine ⟨b,vs,(hren'.bx i h1).symm.trans k1,k2,(ren_rdL hren' ds0' ?_).1 k3,k4,k5⟩
    have := List.all_eq_true.1 hcid _ (List.mem_of_getElem? h2)
    simpa [cellIdb] using this
  ·rw [hlen] at h1
   obtain ⟨b,vs,k1,k2,k3,k4,k5⟩ := s.box id t ds h2
   have hx : idxOf f id h0.length = none := by
    cases hx : idxOf f id h0.length with
    | none => rfl
    | some i => obtain ⟨j1,j2⟩ := idxOf_some hx;exact absurd j2 (h1 i j1)
   refine ⟨b,vs,by simp only [C',hx];exact k1,(stands (.inl k1) h1).trans k2,k3.mono ev,k4,fun o hs => k5 o (noS (.inl k1) h1 o hs)⟩
 ·rcases mergeH_get e' with ⟨i,h1,rfl,c0,h2,h3⟩ | ⟨h1,h2⟩
  ·cases c0 with
   | box _ _ => cases h3
   | dead => cases h3
   | keep _ _ => cases h3
   | log e0 sz0 n0 =>
    simp only [renC,Cell.log.injEq] at h3
    obtain ⟨rfl,rfl,rfl⟩ := h3
    obtain ⟨u,xs,k1,k2,k3⟩ := s0'.log i _ _ _ h2
    rw [hlen] at h1
    exact ⟨u,xs,(hren'.lg i h1).symm.trans k1,k2,k3⟩
  ·rw [hlen] at h1
   obtain ⟨u,xs,k1,k2,k3⟩ := s.log id e sz n h2
   have hx : idxOf f id h0.length = none := by
    cases hx : idxOf f id h0.length with
    | none => rfl
    | some i => obtain ⟨j1,j2⟩ := idxOf_some hx;exact absurd j2 (h1 i j1)
   refine ⟨u,xs,by simp only [C',hx];exact k1,own_block k2 fun b hb => stands (.inr ⟨u,k1,hb⟩) h1,fun b o hu hs => k3 b o hu (noS (.inr ⟨u,k1,hu⟩) h1 o hs)⟩
 ·rcases blk' hb with ⟨i,h1,h2,h3⟩ | ⟨_,h1⟩
  ·exact s0'.lt i b h3
  ·exact Nat.lt_of_lt_of_le (s.lt id b h1) fw.size
 ·rw [hmlen]
  rcases blk' (.inl hb) with ⟨i,h1,rfl,h3⟩ | ⟨hne,h1⟩
  ·exact fid h1
  ·have hx : idxOf f id h0.length = none := by
    cases hx : idxOf f id h0.length with
    | none => rfl
    | some i => obtain ⟨j1,j2⟩ := idxOf_some hx;exact absurd j2 (hne i j1)
   simp only [C',hx] at hb
   exact s.idb id b hb
 ·rw [hmlen]
  cases hx : idxOf f id h0.length with
  | none => simp only [C',hx] at hu;exact s.idl id u hu
  | some i => obtain ⟨h1,rfl⟩ := idxOf_some hx;exact fid h1
 ·rcases blk' hb with ⟨i,h1,rfl,h3⟩ | ⟨hne,h1⟩
  ·rcases blk' hb' with ⟨i',h1',rfl,h3'⟩ | ⟨hne',h1'⟩
   ·rw [s0'.inj i i' b h3 h3']
   ·obtain ⟨j,hj⟩ := fw.own i b h3 (s.lt _ b h1')
    exact absurd hj (apart h1' hne' j)
  ·rcases blk' hb' with ⟨i',h1',rfl,h3'⟩ | ⟨hne',h1'⟩
   ·obtain ⟨j,hj⟩ := fw.own i' b h3' (s.lt _ b h1)
    exact absurd hj (apart h1 hne j)
   ·exact s.inj _ _ b h1 h1'
 ·cases hx : idxOf f id h0.length with
  | none => simp only [C',hx] at hb ⊢;exact s.one id b hb
  | some i => simp only [C',hx] at hb ⊢;exact s0'.one i b hb
 ·rcases mergeH_get e with ⟨i,h1,rfl,c0,h2,h3⟩ | ⟨h1,h2⟩
  ·cases c0 with
   | log _ _ _ => cases h3
   | dead => cases h3
   | box _ _ => cases h3
   | keep b0 P0 =>
    simp only [renC,Cell.keep.injEq] at h3
    obtain ⟨rfl,rfl⟩ := h3
    obtain ⟨k1,k2,k3⟩ := s0'.keep i _ _ h2
    rw [hlen] at h1
    exact ⟨(hren'.bx i h1).symm.trans k1,k2,k3⟩
  ·rw [hlen] at h1
   obtain ⟨k1,⟨x,k2,k3⟩,k4⟩ := s.keep id b P h2
   have hx : idxOf f id h0.length = none := by
    cases hx : idxOf f id h0.length with
    | none => rfl
    | some i => obtain ⟨j1,j2⟩ := idxOf_some hx;exact absurd j2 (h1 i j1)
   exact ⟨by simp only [C',hx];exact k1,⟨x,(stands (.inl k1) h1).trans k2,k3⟩,fun o hs => k4 o (noS (.inl k1) h1 o hs)⟩
theorem CX.ext {P : Program} {k : FuncId} {ds : List D} {h0 : H} {Q0 : Bool -> D -> H -> Prop} (c : CX P k ds h0 Q0) (rest : H) (hid : idbL h0.length ds = true) (hcells : h0.all (cellIdb h0.length) = true)
  (hq : ∀ bo d h',Q0 bo d h' -> h'.length = h0.length ∧ idb h0.length d = true ∧ h'.all (cellIdb h0.length) = true) : CX P k ds (h0 ++ rest) fun bo d h' => ∃ h0',Q0 bo d h0' ∧ h' = h0' ++ rest :=
 (c.frame (h := h0 ++ rest) id (renL_id ds).symm hid hcells (fun _ _ _ _ e => e) (fun i hi => by
  show _ = (h0 ++ rest)[i]?
  rw [List.getElem?_append_left hi]
  cases h0[i]? with
  | none => rfl
  | some c => simp only [Option.map_some,renC_id]) hq).mono fun bo d h' ⟨d0,h0',q,e1,e2⟩ => ⟨h0',by rw [e1,renD_id];exact q,by rw [e2];exact mergeH_id (hq _ _ _ q).1⟩
end Go.Proofs.Ytglefhgcfijiaaa.Pv
namespace Go.Proofs.Ytglefhgcfijiaaa
open Go.RowKit Pv
theorem info_int14 : ∃ i,(TT ()).info? 3 = some i ∧ i.zero = some (.int .i64 0) := Option.bind_eq_some_iff.1 (by kernel_rfl : ((TT ()).info? 3).bind (fun i => i.zero) = some (.int .i64 0))
theorem ebinds_cp (k n : Int) (nm : ByteArray) (hs : Bool) (TS LS KS : List D) (i : Int) (h0 : 0 ≤ i) :
  CP (TT ()) 65 [.agg [.raw (.int .i64 k),.raw (.int .i64 n),.raw (.string nm),.raw (.bool hs),.sl none 5 TS,.sl none 1 LS,.sl none 7 KS],.raw (.int .i64 i)] (· = .raw (.bool (decide (bindB k i.toNat)))) := by
 refine c4_run fun Q hQ => ?_
 have hQy : bindB k i.toNat -> ∀ h',Q (.raw (.bool true)) h' := fun h => by rw [decide_eq_true h] at hQ;exact hQ
 have hQn : ¬ bindB k i.toNat -> ∀ h',Q (.raw (.bool false)) h' := fun h => by rw [decide_eq_false h] at hQ;exact hQ
 clear hQ
 unfold bindB at hQy hQn
 rcases (show k = 7 ∨ (k = 5 ∧ 0 < i) ∨ (k = 5 ∧ i ≤ 0) ∨ (k ≠ 7 ∧ k ≠ 5) by omega) with h | h | h | h
 ·cbv
  (repeat'((first|(apply zS;kernel_rfl)|(apply zD;decide +kernel)|(apply zE;decide +kernel)|(apply zF;decide +kernel)|(apply zL;decide +kernel)|(apply zM;decide +kernel)|(apply zN;intros)|(apply zO;intros)|(apply zT;omega)|(apply zU;omega)|(apply zP;omega;intros)|(apply zQ;omega;intros)|apply zR|(apply yA;omega)|(apply yB;omega)|(apply yC;omega)|(apply yD;omega)|(apply yE;omega)|(apply yF;omega)|(apply yG;omega)|(apply yH;omega)|(apply yI;omega)|(apply yJ;omega)|(apply yK;omega)|(apply yL;omega)|fail);cbv))
  exact ⟨hQy (by omega) _⟩
 ·cbv
  (repeat'((first|(apply zS;kernel_rfl)|(apply zD;decide +kernel)|(apply zE;decide +kernel)|(apply zF;decide +kernel)|(apply zL;decide +kernel)|(apply zM;decide +kernel)|(apply zN;intros)|(apply zO;intros)|(apply zT;omega)|(apply zU;omega)|(apply zP;omega;intros)|(apply zQ;omega;intros)|apply zR|(apply yA;omega)|(apply yB;omega)|(apply yC;omega)|(apply yD;omega)|(apply yE;omega)|(apply yF;omega)|(apply yG;omega)|(apply yH;omega)|(apply yI;omega)|(apply yJ;omega)|(apply yK;omega)|(apply yL;omega)|fail);cbv))
  exact ⟨hQy (by omega) _⟩
 ·cbv
  (repeat'((first|(apply zS;kernel_rfl)|(apply zD;decide +kernel)|(apply zE;decide +kernel)|(apply zF;decide +kernel)|(apply zL;decide +kernel)|(apply zM;decide +kernel)|(apply zN;intros)|(apply zO;intros)|(apply zT;omega)|(apply zU;omega)|(apply zP;omega;intros)|(apply zQ;omega;intros)|apply zR|(apply yA;omega)|(apply yB;omega)|(apply yC;omega)|(apply yD;omega)|(apply yE;omega)|(apply yF;omega)|(apply yG;omega)|(apply yH;omega)|(apply yI;omega)|(apply yJ;omega)|(apply yK;omega)|(apply yL;omega)|fail);cbv))
  exact ⟨hQn (by omega) _⟩
 ·cbv
  (repeat'((first|(apply zS;kernel_rfl)|(apply zD;decide +kernel)|(apply zE;decide +kernel)|(apply zF;decide +kernel)|(apply zL;decide +kernel)|(apply zM;decide +kernel)|(apply zN;intros)|(apply zO;intros)|(apply zT;omega)|(apply zU;omega)|(apply zP;omega;intros)|(apply zQ;omega;intros)|apply zR|(apply yA;omega)|(apply yB;omega)|(apply yC;omega)|(apply yD;omega)|(apply yE;omega)|(apply yF;omega)|(apply yG;omega)|(apply yH;omega)|(apply yI;omega)|(apply yJ;omega)|(apply yK;omega)|(apply yL;omega)|fail);cbv))
  exact ⟨hQn (by omega) _⟩
abbrev H3 (L : List D) (c : Nat) (m : Nat) (F : ByteArray -> Int) : H := [.box 23 [.sl (some 1) 1 L],.log 9 1 c,.keep m (NMapIs F)]
theorem free1_run (m : Nat) (F : ByteArray -> Int) (k n : Int) (nm : ByteArray) (hs : Bool) (TS LS KS L : List D) (c : Nat) (hc : c = L.length) (hb : L.length ≤ 1000000) (Q : Bool -> D -> H -> Prop)
  (hy : k = 4 -> F nm = 0 -> ∀ L' c' tl,L' = L ++ [strD nm] -> c' = L'.length -> Q true (.tup []) ([.box 23 [.sl (some 1) 1 L'],.log 9 1 c',.keep m (NMapIs F)] ++ tl))
  (hn : ¬ (k = 4 ∧ F nm = 0) -> ∀ tl,Q true (.tup []) ([.box 23 [.sl (some 1) 1 L],.log 9 1 c,.keep m (NMapIs F)] ++ tl)) :
  yfun TT 40 [.agg [.raw (.int .i64 k),.raw (.int .i64 n),.raw (.string nm),.raw (.bool hs),.sl none 5 TS,.sl none 1 LS,.sl none 7 KS],.raw (.map (some m)),.bx 0 0] (H3 L c m F) Q := by
 obtain ⟨iu,hu1,hu2⟩ := info_int14
 generalize hz : F nm = z at hy hn
 cbv
 (repeat'((first|(apply zS;kernel_rfl)|(apply zD;decide +kernel)|(apply zE;decide +kernel)|(apply zF;decide +kernel)|(apply zL;decide +kernel)|(apply zM;decide +kernel)|(apply zN;intros)|(apply zO;intros)|(apply zT;omega)|(apply zU;omega)|(apply zP;omega;intros)|(apply zQ;omega;intros)|apply zR);cbv))
 refine BinK.eql ?_ ?_ <;> intro hk <;> cbv
 case refine_2 =>
  (repeat'((first|(apply zS;kernel_rfl)|(apply zD;decide +kernel)|(apply zE;decide +kernel)|(apply zF;decide +kernel)|(apply zL;decide +kernel)|(apply zM;decide +kernel)|(apply zN;intros)|(apply zO;intros)|(apply zT;omega)|(apply zU;omega)|(apply zP;omega;intros)|(apply zQ;omega;intros)|apply zR);cbv))
  exact ⟨hn (fun h => hk h.1) [_]⟩
 (repeat'((first|(apply zS;kernel_rfl)|(apply zD;decide +kernel)|(apply zE;decide +kernel)|(apply zF;decide +kernel)|(apply zL;decide +kernel)|(apply zM;decide +kernel)|(apply zN;intros)|(apply zO;intros)|(apply zT;omega)|(apply zU;omega)|(apply zP;omega;intros)|(apply zQ;omega;intros)|apply zR);cbv))
 refine ⟨2,F,9,3,iu,rfl,by kernel_rfl,by kernel_rfl,hu1,hu2,?_⟩
 rw [hz]
 cbv
 (repeat'((first|(apply zS;kernel_rfl)|(apply zD;decide +kernel)|(apply zE;decide +kernel)|(apply zF;decide +kernel)|(apply zL;decide +kernel)|(apply zM;decide +kernel)|(apply zN;intros)|(apply zO;intros)|(apply zT;omega)|(apply zU;omega)|(apply zP;omega;intros)|(apply zQ;omega;intros)|apply zR);cbv))
 refine BinK.eql ?_ ?_ <;> intro h0 <;> cbv
 case refine_2 =>
  (repeat'((first|(apply zS;kernel_rfl)|(apply zD;decide +kernel)|(apply zE;decide +kernel)|(apply zF;decide +kernel)|(apply zL;decide +kernel)|(apply zM;decide +kernel)|(apply zN;intros)|(apply zO;intros)|(apply zT;omega)|(apply zU;omega)|(apply zP;omega;intros)|(apply zQ;omega;intros)|apply zR);cbv))
  exact ⟨hn (fun h => h0 h.2) [_]⟩
 (repeat'((first|(apply zS;kernel_rfl)|(apply zD;decide +kernel)|(apply zE;decide +kernel)|(apply zF;decide +kernel)|(apply zL;decide +kernel)|(apply zM;decide +kernel)|(apply zN;intros)|(apply zO;intros)|(apply zT;omega)|(apply zU;omega)|(apply zP;omega;intros)|(apply zQ;omega;intros)|apply zR);cbv))
 refine AppK.sl el_strs el_strs rfl hc (by simp only [List.length_cons,List.length_nil];omega) ?_
 intro L2 n2 hL2 hn2
 cbv
 (repeat'((first|(apply zS;kernel_rfl)|(apply zD;decide +kernel)|(apply zE;decide +kernel)|(apply zF;decide +kernel)|(apply zL;decide +kernel)|(apply zM;decide +kernel)|(apply zN;intros)|(apply zO;intros)|(apply zT;omega)|(apply zU;omega)|(apply zP;omega;intros)|(apply zQ;omega;intros)|apply zR);cbv))
 exact ⟨hy hk h0 L2 n2 [_] hL2 hn2⟩
abbrev fnM : D := .fn (.func 40) [] [.bx 0 0]
abbrev nodeD (k n : Int) (nm : ByteArray) (hs : Bool) (TS LS KS : List D) : D := .agg [.raw (.int .i64 k),.raw (.int .i64 n),.raw (.string nm),.raw (.bool hs),.sl none 5 TS,.sl none 1 LS,.sl none 7 KS]
theorem free1_cx (m : Nat) (F : ByteArray -> Int) (k n : Int) (nm : ByteArray) (hs : Bool) (TS LS KS L : List D) (c : Nat) (N : List ByteArray) (hL : L = N.map strD) (hc : c = L.length) (hb : L.length ≤ 1000000) :
  CX (TT ()) 40 [nodeD k n nm hs TS LS KS,.raw (.map (some m)),.bx 0 0] (H3 L c m F)
   fun bo d h' => bo = true ∧ d = .tup [] ∧ ∃ L' c',L' = (N ++ if k = 4 ∧ F nm = 0 then [nm] else []).map strD ∧ c' = L'.length ∧ h' = H3 L' c' m F := by
 have hi : ∀ L' : List ByteArray,idbL 3 (L'.map strD) = true := fun L' => pure_idbL 3 _ (strs_pure L')
 refine (yfun_ok (T := TT) (by kernel_rfl) (free1_run m F k n nm hs TS LS KS L c hc hb
  (fun bo d h' => bo = true ∧ d = .tup [] ∧ ∃ L' c' tl,L' = (N ++ if k = 4 ∧ F nm = 0 then [nm] else []).map strD ∧ c' = L'.length ∧ h' = H3 L' c' m F ++ tl) ?_ ?_)).gc ?_
 ·intro h1 h2 L' c' tl hL' hc'
  exact ⟨rfl,rfl,L',c',tl,by rw [hL',hL,if_pos ⟨h1,h2⟩,List.map_append];rfl,hc',rfl⟩
 ·intro h1 tl
  exact ⟨rfl,rfl,L,c,tl,by rw [hL,if_neg h1,List.append_nil],hc,rfl⟩
 ·rintro b d h' ⟨rfl,rfl,L',c',tl,hL',hc',rfl⟩
  refine ⟨rfl,?_,rfl,rfl,L',c',hL',hc',rfl⟩
  have := hi (N ++ if k = 4 ∧ F nm = 0 then [nm] else [])
  rw [← hL'] at this
  simp [cellIdb,idbL,idb,this]
theorem fvisit_run (m : Nat) (F : ByteArray -> Int) (k n : Int) (nm : ByteArray) (hs : Bool) (ts : List Ty5) (ls : List ByteArray) (ks : List Ex7) (L : List D) (c : Nat) (N : List ByteArray) (hL : L = N.map strD) (hc : c = L.length) (hb : N.length + 1 + countEL ks ≤ 1000000) (hF : ∀ s,0 ≤ F s ∧ F s ≤ 2000000)
  (ih : ∀ t ∈ ks,∀ (G : ByteArray -> Int),(G = F ∨ G = upF F nm) -> ∀ (N : List ByteArray) (L : List D) (c : Nat),L = N.map strD -> c = L.length -> N.length + countE t ≤ 1000000 -> CX (TT ()) 39 [.raw (.map (some m)),exD t,fnM] (H3 L c m G)
   fun bo d h' => bo = true ∧ d = .tup [] ∧ ∃ L' c',L' = (N ++ freeN G t).map strD ∧ c' = L'.length ∧ h' = H3 L' c' m G)
  (Q : Bool -> D -> H -> Prop) (hQ : ∀ L' c' tl,L' = (N ++ freeN F (.mk k n nm hs ts ls ks)).map strD -> c' = L'.length -> Q true (.tup []) (H3 L' c' m F ++ tl)) :
  yfun TT 39 [.raw (.map (some m)),exD (.mk k n nm hs ts ls ks),fnM] (H3 L c m F) Q := by
 obtain ⟨iu,hu1,hu2⟩ := info_int14
 have hkl := countEL_len ks
 have hlm : ∀ N : List ByteArray,(N.map strD).length = N.length := fun N => List.length_map ..
 have hpe := ex_pure (.mk k n nm hs ts ls ks)
 have cS := free1_cx m F k n nm hs (tysD ts) (ls.map strD) (exsD ks) L c N hL hc (by rw [hL,hlm];omega)
 have cB := fun (i : Int) (h : 0 ≤ i) => ebinds_cp k n nm hs (tysD ts) (ls.map strD) (exsD ks) i h
 have hsi : ∀ (j : Nat) (L' : List ByteArray),idbL j (L'.map strD) = true := fun j L' => pure_idbL j _ (strs_pure L')
 simp only [freeN] at hQ
 have hKl := exs_len ks
 have hKi := exs_idb ks
 have hTi := tys_idb ts
 have hLi := strs_idb ls
 have hKat := fun i => exs_at (ks := ks) (i := i)
 simp only [exD] at hpe ⊢
 unfold nodeD at cS
 obtain ⟨N1,hN1⟩ : ∃ N1,N1 = N ++ (if k = 4 ∧ F nm = 0 then [nm] else []) := ⟨_,rfl⟩
 have hN1l : N1.length ≤ N.length + 1 := by
  rw [hN1,List.length_append]
  split <;> simp
 rw [← hN1] at cS
 rw [← List.append_assoc,← hN1] at hQ
 have hLi0 : ∀ j,idbL j L = true := fun j => by rw [hL];exact hsi j N
 clear hL hN1
 generalize ls.map strD = LS at cS cB hLi hpe ⊢
 generalize tysD ts = TS at cS cB hTi hpe ⊢
 generalize exsD ks = KS at cS cB hKl hKi hKat hpe ⊢
 cbv
 (repeat'((first|(apply zS;kernel_rfl)|(apply zD;decide +kernel)|(apply zE;decide +kernel)|(apply zF;decide +kernel)|(apply zL;decide +kernel)|(apply zM;decide +kernel)|(apply zN;intros)|(apply zO;intros)|(apply zT;omega)|(apply zU;omega)|(apply zP;omega;intros)|(apply zQ;omega;intros)|apply zR);cbv))
 refine XCallK.both (cS.ext [_] (by simp [idbL,idb,hTi,hLi,hKi]) (by simp [cellIdb,idbL,idb,hLi0]) ?_) ?_
 ·rintro b d h' ⟨rfl,rfl,L',c',hL',hc',rfl⟩
  simp [cellIdb,idbL,idb,hL',hsi]
 rintro b d h' ⟨h0',⟨rfl,rfl,L1,c1,hL1,hc1,rfl⟩,rfl⟩
 clear cS
 cbv
 (repeat'((first|(apply zS;kernel_rfl)|(apply zD;decide +kernel)|(apply zE;decide +kernel)|(apply zF;decide +kernel)|(apply zL;decide +kernel)|(apply zM;decide +kernel)|(apply zN;intros)|(apply zO;intros)|(apply zT;omega)|(apply zU;omega)|(apply zP;omega;intros)|(apply zQ;omega;intros)|apply zR);cbv))
 refine LoopK.put (X := Int × List D × Nat × List ByteArray) (fun x => [(15,.raw (.int .i64 x.1))]) (fun x => [(0,.box 23 [.sl (some 1) 1 x.2.1]),(1,.log 9 1 x.2.2.1)]) (fun x => ks.length - x.1.toNat)
  (fun x => 0 ≤ x.1 ∧ x.1.toNat ≤ ks.length ∧ x.2.1 = x.2.2.2.map strD ∧ x.2.2.1 = x.2.1.length ∧ x.2.2.2 = N1 ++ freeNL F k nm 0 (ks.take x.1.toNat)) (0,L1,c1,N1) ⟨by simp,by simp,hL1,hc1,by simp [freeNL]⟩ rfl rfl ?_
 clear hL1 hc1
 rintro ⟨i,L2,c2,N2⟩ M ⟨h0,hi,hL2,hc2,hN2⟩ hM
 simp only at h0 hi hL2 hc2 hN2 hM ⊢
 have hLi2 : ∀ j,idbL j L2 = true := fun j => by rw [hL2];exact hsi j N2
 cbv
 (repeat'((first|(apply zS;kernel_rfl)|(apply zD;decide +kernel)|(apply zE;decide +kernel)|(apply zF;decide +kernel)|(apply zL;decide +kernel)|(apply zM;decide +kernel)|(apply zN;intros)|(apply zO;intros)|(apply zT;omega)|(apply zU;omega)|(apply zP;omega;intros)|(apply zQ;omega;intros)|apply zR);cbv))
 refine BinK.lss ?_ ?_ <;> intro hlt <;> cbv <;> (repeat'((first|(apply zS;kernel_rfl)|(apply zD;decide +kernel)|(apply zE;decide +kernel)|(apply zF;decide +kernel)|(apply zL;decide +kernel)|(apply zM;decide +kernel)|(apply zN;intros)|(apply zO;intros)|(apply zT;omega)|(apply zU;omega)|(apply zP;omega;intros)|(apply zQ;omega;intros)|apply zR);cbv))
 ·obtain ⟨t,ht,hK⟩ := hKat i.toNat (by omega)
  have hlen : N2.length + countE t ≤ 1000000 := by
   have h1 := freeNL_len F k nm (ks.take i.toNat) 0
   have h2 := countEL_step ht
   have h3 := countEL_part ks (i.toNat + 1)
   rw [hN2,List.length_append]
   omega
  have hstep := freeNL_step (F := F) (k := k) (nm := nm) ht
  have cV := fun G hG => ih t (List.mem_of_getElem? ht) G hG N2 L2 c2 hL2 hc2 hlen
  have hpt := ex_pure t
  have cB := cB i h0
  have hup : ∀ z : Int,z = F nm + 1 -> ∀ G : ByteArray -> Int,G = (fun x => if x = nm then z else F x) -> G = upF F nm := fun z hz G hG => by
   funext x
   rw [hG]
   unfold upF
   by_cases e : x = nm
   ·simp only [if_pos e]
    rw [hz,e]
   ·simp only [if_neg e]
  have hdn : ∀ z : Int,z = upF F nm nm - 1 -> ∀ G : ByteArray -> Int,G = (fun x => if x = nm then z else upF F nm x) -> G = F := fun z hz G hG => by
   funext x
   rw [hG]
   by_cases e : x = nm
   ·simp only [if_pos e]
    rw [hz,e]
    unfold upF
    rw [if_pos rfl]
    omega
   ·simp only [if_neg e]
    unfold upF
    rw [if_neg e]
  have hFn := hF nm
  have hupn : upF F nm nm = F nm + 1 := by unfold upF;rw [if_pos rfl]
  obtain ⟨k1,n1,m1,b1,T1,K2,K1,f1,i1,j1,l1⟩ := ex_node t
  have hnext : ∀ (L3 : List D) (c3 : Nat) (N3 : List ByteArray),L3 = N3.map strD -> c3 = L3.length -> N3 = N2 ++ freeN (if bindB k i.toNat then upF F nm else F) t -> ∀ r : Int,r = i + 1 -> L3 = N3.map strD ∧ c3 = L3.length ∧ N3 = N1 ++ freeNL F k nm 0 (ks.take r.toNat) := fun L3 c3 N3 h1 h2 h3 r hr => by
   refine ⟨h1,h2,?_⟩
   rw [show r.toNat = i.toNat + 1 by omega,hstep,← List.append_assoc,← hN2,h3]
  clear hstep ht hN2 ih hKat
  by_cases hbi : bindB k i.toNat
  ·rw [decide_eq_true hbi] at cB
   rw [if_pos hbi] at hnext
   have cV := cV (upF F nm) (.inr rfl)
   generalize upF F nm = U at cV hup hdn hupn hnext
   rw [f1] at cV hpt hK
   clear f1 hbi
   refine IdxK.intro h0 hK ?_
   cbv
   (repeat'((first|(apply zS;kernel_rfl)|(apply zD;decide +kernel)|(apply zE;decide +kernel)|(apply zF;decide +kernel)|(apply zL;decide +kernel)|(apply zM;decide +kernel)|(apply zN;intros)|(apply zO;intros)|(apply zT;omega)|(apply zU;omega)|(apply zP;omega;intros)|(apply zQ;omega;intros)|apply zR);cbv))
   refine .one cB (cons_pure hpe rfl) rfl ?_
   cbv
   (repeat'((first|(apply zS;kernel_rfl)|(apply zD;decide +kernel)|(apply zE;decide +kernel)|(apply zF;decide +kernel)|(apply zL;decide +kernel)|(apply zM;decide +kernel)|(apply zN;intros)|(apply zO;intros)|(apply zT;omega)|(apply zU;omega)|(apply zP;omega;intros)|(apply zQ;omega;intros)|apply zR);cbv))
   refine ⟨2,F,9,3,iu,rfl,by kernel_rfl,by kernel_rfl,hu1,hu2,?_⟩
   generalize F nm = z0 at hFn hup hupn ⊢
   cbv
   (repeat'((first|(apply zS;kernel_rfl)|(apply zD;decide +kernel)|(apply zE;decide +kernel)|(apply zF;decide +kernel)|(apply zL;decide +kernel)|(apply zM;decide +kernel)|(apply zN;intros)|(apply zO;intros)|(apply zT;omega)|(apply zU;omega)|(apply zP;omega;intros)|(apply zQ;omega;intros)|apply zR);cbv))
   rename_i z1 hz1
   refine ⟨2,F,9,3,rfl,by kernel_rfl,by kernel_rfl,?_⟩
   intro G hG
   obtain rfl := hup z1 hz1 G hG
   clear hG hup
   cbv
   (repeat'((first|(apply zS;kernel_rfl)|(apply zD;decide +kernel)|(apply zE;decide +kernel)|(apply zF;decide +kernel)|(apply zL;decide +kernel)|(apply zM;decide +kernel)|(apply zN;intros)|(apply zO;intros)|(apply zT;omega)|(apply zU;omega)|(apply zP;omega;intros)|(apply zQ;omega;intros)|apply zR);cbv))
   refine XCallK.both (cV.ext [_,_] (by simp [idbL,idb,i1,j1,l1]) (by simp [cellIdb,idbL,idb,hLi2]) ?_) ?_
   ·rintro b d h' ⟨rfl,rfl,L',c',hL',hc',rfl⟩
    have hj := hsi 3 (N2 ++ freeN G t)
    rw [← hL'] at hj
    simp [cellIdb,idbL,idb,hj]
   rintro b d h' ⟨h0',⟨rfl,rfl,L3,c3,hL3,hc3,rfl⟩,rfl⟩
   clear cV
   have hLi3 : ∀ j,idbL j L3 = true := fun j => by rw [hL3];exact hsi j _
   cbv
   (repeat'((first|(apply zS;kernel_rfl)|(apply zD;decide +kernel)|(apply zE;decide +kernel)|(apply zF;decide +kernel)|(apply zL;decide +kernel)|(apply zM;decide +kernel)|(apply zN;intros)|(apply zO;intros)|(apply zT;omega)|(apply zU;omega)|(apply zP;omega;intros)|(apply zQ;omega;intros)|apply zR);cbv))
   refine ⟨2,G,9,3,iu,rfl,by kernel_rfl,by kernel_rfl,hu1,hu2,?_⟩
   generalize G nm = z2 at hupn hdn ⊢
   cbv
   (repeat'((first|(apply zS;kernel_rfl)|(apply zD;decide +kernel)|(apply zE;decide +kernel)|(apply zF;decide +kernel)|(apply zL;decide +kernel)|(apply zM;decide +kernel)|(apply zN;intros)|(apply zO;intros)|(apply zT;omega)|(apply zU;omega)|(apply zP;omega;intros)|(apply zQ;omega;intros)|apply zR);cbv))
   rename_i z3 hz3
   refine ⟨2,G,9,3,rfl,by kernel_rfl,by kernel_rfl,?_⟩
   intro G2 hG2
   obtain rfl := hdn z3 hz3 G2 hG2
   cbv
   (repeat'((first|(apply zS;kernel_rfl)|(apply zD;decide +kernel)|(apply zE;decide +kernel)|(apply zF;decide +kernel)|(apply zL;decide +kernel)|(apply zM;decide +kernel)|(apply zN;intros)|(apply zO;intros)|(apply zT;omega)|(apply zU;omega)|(apply zP;omega;intros)|(apply zQ;omega;intros)|apply zR);cbv))
   rename_i r hr
   refine RoundK.forget (r,L3,c3,N2 ++ freeN G t) ⟨by omega,by omega,hnext L3 c3 _ hL3 hc3 rfl r hr⟩ (by omega) rfl rfl ?_ ?_
   ·simp [idbL,idb,hKi,hTi,hLi,i1,j1,l1]
   ·simp [cellIdb,idbL,idb,hKi,hTi,hLi,i1,j1,l1,hLi3]
  ·rw [decide_eq_false hbi] at cB
   rw [if_neg hbi] at hnext
   have cV := cV F (.inl rfl)
   rw [f1] at cV hpt hK
   clear f1 hbi
   refine IdxK.intro h0 hK ?_
   cbv
   (repeat'((first|(apply zS;kernel_rfl)|(apply zD;decide +kernel)|(apply zE;decide +kernel)|(apply zF;decide +kernel)|(apply zL;decide +kernel)|(apply zM;decide +kernel)|(apply zN;intros)|(apply zO;intros)|(apply zT;omega)|(apply zU;omega)|(apply zP;omega;intros)|(apply zQ;omega;intros)|apply zR);cbv))
   refine .one cB (cons_pure hpe rfl) rfl ?_
   cbv
   (repeat'((first|(apply zS;kernel_rfl)|(apply zD;decide +kernel)|(apply zE;decide +kernel)|(apply zF;decide +kernel)|(apply zL;decide +kernel)|(apply zM;decide +kernel)|(apply zN;intros)|(apply zO;intros)|(apply zT;omega)|(apply zU;omega)|(apply zP;omega;intros)|(apply zQ;omega;intros)|apply zR);cbv))
   refine XCallK.both (cV.ext [_,_] (by simp [idbL,idb,i1,j1,l1]) (by simp [cellIdb,idbL,idb,hLi2]) ?_) ?_
   ·rintro b d h' ⟨rfl,rfl,L',c',hL',hc',rfl⟩
    have hj := hsi 3 (N2 ++ freeN F t)
    rw [← hL'] at hj
    simp [cellIdb,idbL,idb,hj]
   rintro b d h' ⟨h0',⟨rfl,rfl,L3,c3,hL3,hc3,rfl⟩,rfl⟩
   clear cV hup hdn
   have hLi3 : ∀ j,idbL j L3 = true := fun j => by rw [hL3];exact hsi j _
   cbv
   (repeat'((first|(apply zS;kernel_rfl)|(apply zD;decide +kernel)|(apply zE;decide +kernel)|(apply zF;decide +kernel)|(apply zL;decide +kernel)|(apply zM;decide +kernel)|(apply zN;intros)|(apply zO;intros)|(apply zT;omega)|(apply zU;omega)|(apply zP;omega;intros)|(apply zQ;omega;intros)|apply zR);cbv))
   rename_i r hr
   refine RoundK.forget (r,L3,c3,N2 ++ freeN F t) ⟨by omega,by omega,hnext L3 c3 _ hL3 hc3 rfl r hr⟩ (by omega) rfl rfl ?_ ?_
   ·simp [idbL,idb,hKi,hTi,hLi,i1,j1,l1]
   ·simp [cellIdb,idbL,idb,hKi,hTi,hLi,i1,j1,l1,hLi3]
 ·have hall : ks.take i.toNat = ks := List.take_of_length_le (by omega)
  rw [hall] at hN2
  exact ⟨hQ L2 c2 [_] (by rw [hL2,hN2]) hc2⟩
theorem fvisit_cx (m : Nat) : ∀ e : Ex7,okE e -> ∀ (F : ByteArray -> Int),(∀ s,0 ≤ F s ∧ F s + depthE e ≤ 2000000) -> ∀ (N : List ByteArray) (L : List D) (c : Nat),L = N.map strD -> c = L.length -> N.length + countE e ≤ 1000000 ->
  CX (TT ()) 39 [.raw (.map (some m)),exD e,fnM] (H3 L c m F) fun bo d h' => bo = true ∧ d = .tup [] ∧ ∃ L' c',L' = (N ++ freeN F e).map strD ∧ c' = L'.length ∧ h' = H3 L' c' m F := by
 refine ex_ind fun k n nm hs ts ls ks ih ho F hF N L c hL hc hn => ?_
 have hsi : ∀ (j : Nat) (L' : List ByteArray),idbL j (L'.map strD) = true := fun j L' => pure_idbL j _ (strs_pure L')
 simp only [countE] at hn
 refine (yfun_ok (T := TT) (by kernel_rfl) (fvisit_run m F k n nm hs ts ls ks L c N hL hc (by omega) (fun s => ⟨(hF s).1,by have := (hF s).2;simp only [depthE] at this;omega⟩)
  (fun t ht G hG N L c hL hc hn => ih t ht (okEL_get ho.2.2.2 t ht) G (fun s => ?_) N L c hL hc hn)
  (fun bo d h' => bo = true ∧ d = .tup [] ∧ ∃ L' c' tl,L' = (N ++ freeN F (.mk k n nm hs ts ls ks)).map strD ∧ c' = L'.length ∧ h' = H3 L' c' m F ++ tl)
  fun L' c' tl h1 h2 => ⟨rfl,rfl,L',c',tl,h1,h2,rfl⟩)).gc ?_
 ·have h1 := hF s
  have h2 : depthE t ≤ depthEL ks := by
   obtain ⟨j,hj⟩ := List.getElem?_of_mem ht
   have h3 := depthEL_step hj
   have h4 : depthEL (ks.take (j + 1)) ≤ depthEL ks := by
    have := depthEL_app (ks.take (j + 1)) (ks.drop (j + 1))
    rw [List.take_append_drop] at this
    omega
   omega
  simp only [depthE] at h1
  rcases hG with rfl | rfl
  ·omega
  ·unfold upF
   split <;> omega
 ·rintro b d h' ⟨rfl,rfl,L',c',tl,hL',hc',rfl⟩
  refine ⟨rfl,?_,rfl,rfl,L',c',hL',hc',rfl⟩
  have := hsi 3 (N ++ freeN F (.mk k n nm hs ts ls ks))
  rw [← hL'] at this
  simp [cellIdb,idbL,idb,this]
end Go.Proofs.Ytglefhgcfijiaaa

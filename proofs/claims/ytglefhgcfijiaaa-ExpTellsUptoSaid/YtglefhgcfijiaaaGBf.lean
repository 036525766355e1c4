/- Parts of the proof: ExW, EpW, EpV, ExQ, End. -/
import Derived.SizedLaws
import Derived.Test.YtglefhgcfijiaaaGBe
import Derived.Test.YtglefhgcfijiaaaGBc
import Derived.Test.YtglefhgcfijiaaaGBb
import Derived.Test.YtglefhgcfijiaaaGAk
import Derived.Test.YtglefhgcfijiaaaGBd
import Derived.Test.YtglefhgcfijiaaaGAf
set_option linter.unusedSimpArgs false
set_option linter.unusedVariables false
set_option maxRecDepth 1000000
set_option maxHeartbeats 40000000
namespace Go.Proofs.Ytglefhgcfijiaaa
open Go.RowKit Go.Shelf Pv
attribute [local go_sem] Oper.semAt_some
def VisitOk (w : World) (e : Ex7) (v0 v1 v2 v3 v4 v5 v6 : Value) : Prop :=
  Calls Try.prog 39 #[.map (some (w.heap.size + 1 + 1)), .agg #[v0, v1, v2, v3, v4, v5, v6], .func (.func 40) #[] #[.pointer (some ⟨w.heap.size + 1, 0, none⟩)]]
    (((w.alloc (.cells #[v0, v1, v2, v3, v4, v5, v6] 26)).alloc (.cells #[.slice none 0 0] 23)).alloc (.map #[] 0)) fun r w' =>
      r = .returned (.tuple #[]) ∧ Below w.heap.size w w' ∧ ∃ v, Boxed w' (w.heap.size + 1) 23 v ∧ w'.ownsRow w.heap.size 9 1 v (freeN (fun _ => 0) e).length ((freeN (fun _ => 0) e).map Value.string)
theorem run_makeScope (w : World) : Sem.run Try.prog (Instr.makeMap 53 none) w = .ok (.map (some w.heap.size)) (w.alloc (.map #[] 0)) := by
 have ht : Try.prog.underlying 53 = some (.map 9 3) := by kernel_rfl
 simp [Instr.makeMap,run_underlying ht,go_sem]
attribute [local go_sem] run_makeScope
theorem pefree_any (e : Ex7) (v0 v1 v2 v3 v4 v5 v6 : Value) (w : World) (hn : countE e ≤ 1000000) (hz : ∀ s ∈ freeN (fun _ => 0) e,s.size ≤ maxLen) (hV : VisitOk w e v0 v1 v2 v3 v4 v5 v6) :
  Calls Try.prog 20 #[.agg #[v0,v1,v2,v3,v4,v5,v6]] w fun r w' => ∃ v L,r = .returned v ∧ Below w.heap.size w w' ∧ StrsAt w' v L ∧ VarsIs (freeN (fun _ => 0) e) L ∧ NewRow w v := by
 have HV := Asd.mk hV
 clear hV
 have hlen := Nat.le_trans (freeN_len (fun _ => 0) e) hn
 go_enter Try.func20,Try.ntmps20
 go_wp2_with (first
  | (go_at_call 39;refine HV.out.mono ?_;clear HV;rintro r W1 ⟨rfl,hb1,v,bV,oV⟩;have cV := bV.cell;have HD := Asd.mk (distinct_any w.heap.size (freeN (fun _ => 0) e) v W1 hb1.size oV hlen hz))
    | (go_at_call 41; refine HD.out.mono ?_; clear HD; rintro r W2 ⟨v', L, rfl, hb2, hs2, hv2, hl2, hn2, hd2⟩))
 go_ret
 exact ⟨_,L,rfl,hb1.trans hb2,hs2,hv2,hn2⟩
theorem pos_zero (d : Int) (h : d ≤ 2000000) : ∀ s : ByteArray,(0 : Int) ≤ (fun _ => (0 : Int)) s ∧ (fun _ => (0 : Int)) s + d ≤ 2000000 := fun _ => ⟨Int.le_refl _,by simpa using h⟩
theorem visit_ok {S : Nat -> Nat -> Prop} {w : World} (hS : Okay S w) (e : Ex7) (v0 v1 v2 v3 v4 v5 v6 : Value) (hT : ExIn S w e v0 v1 v2 v3 v4 v5 v6) : VisitOk w e v0 v1 v2 v3 v4 v5 v6 := by
 have hcn := Nat.le_trans (count_nodes e) hT.2.1
 have hdn := Nat.le_trans (depth_nodesE e) hT.2.1
 have s0 := bare_sim hS
 have hb1 : Below w.heap.size w (w.alloc (.cells #[v0,v1,v2,v3,v4,v5,v6] 26)) := (Below.refl _ _).alloc (Nat.le_refl _) _
 obtain ⟨w1,hw1⟩ : ∃ w1,w.alloc (.cells #[v0,v1,v2,v3,v4,v5,v6] 26) = w1 := ⟨_,rfl⟩
 have hz1 : w1.heap.size = w.heap.size + 1 := by rw [← hw1];simp
 unfold VisitOk
 rw [hw1] at hb1 ⊢
 clear hw1
 obtain ⟨s1,f1⟩ := s0.below hb1
 obtain ⟨C2,f2,s2,hbx2⟩ := s1.box_new 23 (ds := [.raw (.slice none 0 0)]) (vs := #[.slice none 0 0]) ⟨_,_,rfl,rfl,rfl⟩ (by intro u hu;simp at hu;subst hu;rfl)
 obtain ⟨C3,f3,s3,hlg3⟩ := s2.log_nil 9 1
 obtain ⟨C4,f4,s4⟩ := s3.keep_new (.map #[] 0) (Q := NMapIs fun _ => 0) ⟨[],#[],0,rfl,rfl,rfl⟩
 have hm : (w1.alloc (.cells #[.slice none 0 0] 23)).heap.size = w.heap.size + 1 + 1 := by simp [hz1]
 rw [hm] at s4
 obtain ⟨w3,hw3⟩ : ∃ w3,(w1.alloc (.cells #[.slice none 0 0] 23)).alloc (.map #[] 0) = w3 := ⟨_,rfl⟩
 have hb3 : Below w.heap.size w w3 := by rw [← hw3];exact (hb1.alloc (by omega) _).alloc (by simp;omega) _
 rw [hw3] at f4 s4 ⊢
 have hbx4 : C4.bx 0 = some (w.heap.size + 1) := by
  have := f4.bx _ _ (f3.bx _ _ hbx2)
  rw [hz1] at this
  exact this
 obtain ⟨u4,hu4,hlen4⟩ : ∃ u,C4.lg 1 = some u ∧ u = .slice none 0 0 := by
  obtain ⟨u',h1,h2⟩ := f4.lg _ _ hlg3
  obtain ⟨u,xs,h3,h4,_⟩ := s4.log 1 _ _ _ rfl
  have e1 : C4.lg 1 = some u' := h1
  rw [e1] at h3
  cases h3
  refine ⟨u',h1,h2.resolve_right fun h => ?_⟩
  rw [ownsRow_len h4] at h
  exact absurd h (Nat.not_lt_zero _)
 have s5 : Sim C4 (H3 [] 0 (w.heap.size + 1 + 1) fun _ => 0) w3 := s4.weak rfl (fun id t ds' e => by
  match id with
  | 0 =>
   obtain ⟨rfl,rfl⟩ : 23 = t ∧ [D.sl (some 1) 1 []] = ds' := by simpa using e
   refine ⟨_,rfl,fun vs h => ?_⟩
   obtain ⟨v,r,rfl,h1,h2⟩ := h
   simp only [Pv.Rd] at h1
   subst h1
   refine ⟨_,r,rfl,⟨⟨none,0,rfl,Nat.le_refl _,Nat.zero_le _⟩,fun h => absurd h (Nat.lt_irrefl 0),fun id e => ?_⟩,h2⟩
   cases e
   exact ⟨u4,hu4,Nat.zero_le _,fun _ => hlen4.symm⟩
  | 1 => simp at e
  | 2 => simp at e
  | id + 3 => simp at e) (fun id t sz n e => by
  match id with
  | 0 => simp at e
  | 1 => simpa using e
  | 2 => simp at e
  | id + 3 => simp at e) (fun id b P e => by
  match id with
  | 0 => simp at e
  | 1 => simp at e
  | 2 => simpa using e
  | id + 3 => simp at e)
 have f : Fw (bare S) w C4 w3 := ((f1.trans f2).trans f3).trans f4
 have hcx := fvisit_cx (w.heap.size + 1 + 1) e hT.1 (fun _ => 0) (pos_zero _ (by omega)) [] [] 0 rfl rfl (by simpa using hcn)
 refine (hcx.2 C4 w3 [.map (some (w.heap.size + 1 + 1)),.agg #[v0,v1,v2,v3,v4,v5,v6],.func (.func 40) #[] #[.pointer (some ⟨w.heap.size + 1,0,none⟩)]] s5
  ⟨_,_,rfl,rfl,_,_,rfl,Rd.mono f.toEv _ _ hT.2.2.2,_,_,rfl,⟨[],[.pointer (some ⟨w.heap.size + 1,0,none⟩)],rfl,rfl,_,_,rfl,⟨_,hbx4,rfl⟩,rfl⟩,rfl⟩).mono ?_
 rintro r w' ⟨b,v,C',d,h',h1,⟨rfl,rfl,L',c',hL',hc',rfl⟩,g,s',r'⟩
 obtain ⟨vs,rfl,hvs⟩ := r'
 simp only [Pv.RdL] at hvs
 subst hvs
 have hblk : ∀ id b,C4.blk id b -> w.heap.size ≤ b := fun id b hb => by
  by_cases h : b < w.heap.size
  ·obtain ⟨id',h'⟩ := f.own id b hb h
   rcases h' with h' | ⟨u,h',_⟩ <;> cases h'
  ·omega
 have hbw : Below w.heap.size w3 w' := ⟨g.os,g.tape,g.output,g.size,fun k hk => g.frame k (Nat.lt_of_lt_of_le hk hb3.size) fun id h => by have := hblk id k h;omega⟩
 refine ⟨h1,hb3.trans hbw,?_⟩
 obtain ⟨b,vs,k1,k2,k3,_,_⟩ := s'.box 0 _ _ rfl
 have e1 := g.bx _ _ hbx4
 rw [e1] at k1
 cases k1
 obtain ⟨u,r,hv,k4,k5⟩ := k3
 simp only [Pv.RdL] at k5
 subst k5
 obtain ⟨k6,k7,k8⟩ := k4
 obtain ⟨u',q1,q2,q3⟩ := k8 1 rfl
 obtain ⟨u2,xs,p1,p2,_⟩ := s'.log 1 _ _ _ rfl
 rw [q1] at p1
 cases p1
 obtain rfl : u = u' := q3 (by rw [ownsRow_len p2,hc'])
 refine ⟨u,?_,?_⟩
 ·have : vs = #[u] := by
   cases vs
   simp_all
  rw [this] at k2
  exact k2
 ·have hN : L' = (freeN (fun _ => 0) e).map strD := by rw [hL',List.nil_append]
  clear hL'
  generalize freeN (fun _ => 0) e = N at hN ⊢
  have hcl : c' = N.length := by rw [hc',hN,List.length_map]
  have p3 := p2
  obtain ⟨l1,hor⟩ := p2
  rw [hcl,Nat.mul_one] at l1
  rcases hor with ⟨rfl,h0⟩ | ⟨g0,cap,cur,rfl,_,hb,h1,h2,h3,h4⟩
  ·obtain rfl : N = [] := List.eq_nil_of_length_eq_zero (by omega)
   exact ⟨rfl,.inl ⟨rfl,rfl⟩⟩
  ·have hge : w.heap.size ≤ g0 := by
    by_cases h : g0 < w.heap.size
    ·obtain ⟨id',h'⟩ := g.own 1 g0 (.inr ⟨_,q1,rfl⟩) (Nat.lt_of_lt_of_le h hb3.size)
     exact hblk id' g0 h'
    ·omega
   have hxs : xs = N.map Value.string := by
    apply List.ext_getElem?
    intro j
    by_cases hj : j < N.length
    ·have hcell := World.ownsRow.cellAt p3 j (by omega)
     obtain ⟨b,off,cap',hv,_,hr⟩ := k7 (by rw [hN,List.length_map];omega)
     obtain ⟨⟨rfl,rfl⟩,_,_⟩ : (g0 = b ∧ 0 = off) ∧ c' = L'.length ∧ cap = cap' := by simpa using hv
     obtain ⟨x,y1,y2,_,y4⟩ := hr.get (i := j) (d := strD N[j]) (by rw [hN,List.getElem?_map,List.getElem?_eq_getElem hj];rfl)
     simp only [strD,Pv.Rd] at y1
     subst y1
     have h5 := y4 0 (by simp [Value.cells])
     rw [List.getElem?_map,List.getElem?_eq_getElem hj,← hcell]
     simpa [Value.cells] using h5
    ·rw [List.getElem?_eq_none (by omega),List.getElem?_eq_none (by rw [List.length_map];omega)]
   subst hcl
   rw [hxs] at h4
   exact ⟨by simp,.inr ⟨g0,cap,cur,rfl,hge,hb,h1,h2,h3,h4⟩⟩
theorem ex_inF {S : Nat -> Nat -> Prop} {w : World} {v : Value} {e : Ex7} (ho : okE e) (hn : nodesE e ≤ 1000000) (hS : Okay S w) (h : Pv.Rd (bare S) w (exD e) v) : ∃ v0 v1 v2 v3 v4 v5 v6,v = .agg #[v0,v1,v2,v3,v4,v5,v6] ∧ ExIn S w e v0 v1 v2 v3 v4 v5 v6 := by
 have h' := h
 obtain ⟨k,n,nm,hs,ts,ls,ks⟩ := e
 simp only [exD] at h
 obtain ⟨vs,rfl,u0,r0,rfl,q0,u1,r1,rfl,q1,u2,r2,rfl,q2,u3,r3,rfl,q3,u4,r4,rfl,q4,u5,r5,rfl,q5,u6,r6,rfl,q6,q7⟩ := h
 simp only [Pv.RdL] at q7
 subst q7
 exact ⟨_,_,_,_,_,_,_,rfl,ho,hn,fun b o h => hS.lt b o h,h'⟩
theorem efree_cp (e : Ex7) (ho : okE e) (hn : nodesE e ≤ 1000000) : CP (TT ()) 20 [exD e] (· = .sl none 1 ((freeE e).map strD)) :=
 cp_row (callable_at Try.func20 (by kernel_rfl) rfl) fun S w args hS r => by
  obtain ⟨v,rfl,h⟩ := rdL_one r
  obtain ⟨v0,v1,v2,v3,v4,v5,v6,rfl,hT⟩ := ex_inF ho hn hS h
  refine (pefree_any e v0 v1 v2 v3 v4 v5 v6 w (Nat.le_trans (count_nodes e) hn) (fun s hs => freeE_fit e ho s (((free_is e).2 s).2 hs)) (visit_ok hS e v0 v1 v2 v3 v4 v5 v6 hT)).mono ?_
  rintro r w' ⟨v,L,rfl,hb,hs,hv,hnew⟩
  obtain rfl : L = freeE e := varsIs_unique hv (free_is e)
  exact ⟨v,rfl,hb,hs,hnew⟩
open Go.RowKit Pv
theorem rdE_wk14 {C : Cx} {w : World} {sz : Nat} : ∀ (ds es : List D) (f : Nat -> Option Value),ds.length = es.length -> (∀ (i : Nat) (d e : D),ds[i]? = some d -> es[i]? = some e -> Wk d e) -> Pv.RdE C w sz ds f -> Pv.RdE C w sz es f
 | [],[],_,_,_,_ => trivial
 | d :: ds,e :: es,f,hl,h,⟨⟨u,r,k⟩,r2⟩ => ⟨⟨u,h 0 d e rfl rfl C w u r,k⟩,rdE_wk14 ds es _ (Nat.succ.inj hl) (fun i d' e' h1 h2 => h (i + 1) d' e' h1 h2) r2⟩
theorem wk_sl14 {tag : Option Nat} {sz : Nat} {ds es : List D} (hl : ds.length = es.length) (h : ∀ (i : Nat) (d e : D),ds[i]? = some d -> es[i]? = some e -> Wk d e) : Wk (.sl tag sz ds) (.sl tag sz es) := fun C w v ⟨h1,h2,h3⟩ => by
 refine ⟨hl ▸ h1,fun hp => ?_,fun id e => hl ▸ h3 id e⟩
 obtain ⟨b,off,cap,e,hs,hr⟩ := h2 (by omega)
 exact ⟨b,off,cap,hl ▸ e,hl ▸ hs,rdE_wk14 ds es _ hl h hr⟩
theorem cp_wk14 {k : FuncId} {ds es : List D} {Q : D -> Prop} (c : CP (TT ()) k es Q) (hw : WkL ds es) : CP (TT ()) k ds Q := ⟨c.1,fun S w args hS r => c.2 S w args hS (hw _ _ _ r)⟩
def xE14 : Ex7 := .mk 4 0 ⟨#[120]⟩ false [] [] []
def iE14 : Ex7 := .mk 1 1 ⟨#[]⟩ false [] [] []
def eE14 : Ex7 := .mk 5 0 ⟨#[120]⟩ false [] [] [iE14,xE14]
abbrev z14 : D := .raw (.slice none 0 0)
abbrev rE14 (k n : Int) (nm : ByteArray) (kids : D) : D := .agg [.raw (.int .i64 k),.raw (.int .i64 n),.raw (.string nm),.raw (.bool false),z14,z14,kids]
theorem leaf_wk14 (k n : Int) (nm : ByteArray) : Wk (rE14 k n nm z14) (exD (.mk k n nm false [] [] [])) :=
 .agg (.cons (.refl _) (.cons (.refl _) (.cons (.refl _) (.cons (.refl _) (.cons (nil_any 5) (.cons (nil_any 1) (.cons (nil_any 7) .nil)))))))
theorem e_wk14 : Wk (rE14 5 0 ⟨#[120]⟩ (.sl none 7 [rE14 1 1 ⟨#[]⟩ z14,rE14 4 0 ⟨#[120]⟩ z14])) (exD eE14) :=
 .agg (.cons (.refl _) (.cons (.refl _) (.cons (.refl _) (.cons (.refl _) (.cons (nil_any 5) (.cons (nil_any 1) (.cons (wk_sl14 rfl fun i d e hd he => by
  match i with
  | 0 => simp [exsD] at hd he;subst hd he;exact leaf_wk14 1 1 ⟨#[]⟩
  | 1 => simp [exsD] at hd he;subst hd he;exact leaf_wk14 4 0 ⟨#[120]⟩
  | n + 2 => simp at hd) .nil)))))))
theorem x_ok14 : okE xE14 := ⟨by decide,trivial,fun s h => (by cases h),trivial⟩
theorem e_ok14 : okE eE14 := ⟨by decide,trivial,fun s h => (by cases h),⟨by decide,trivial,fun s h => (by cases h),trivial⟩,x_ok14,trivial⟩
theorem awake14_cp (hAt : ∀ (e : Ex7) (j : Int),okE e -> nodesE e ≤ 5000 -> -9223372036854775808 ≤ j ∧ j ≤ 9223372036854775807 -> CP (TT ()) 8 [exD e,.raw (.int .i64 j)] (· = atP (atE e j.toNat)))
  (hR : ∀ e,okE e -> nodesE e ≤ 5000 -> CP (TT ()) 10 [exD e] (· = .raw (.bool (rightE e))))
  (hC : ∀ e,okE e -> nodesE e ≤ 5000 -> CP (TT ()) 16 [exD e] (· = .raw (.int .i64 (countE e))))
  (hF : ∀ e,okE e -> nodesE e ≤ 5000 -> CP (TT ()) 20 [exD e] (· = .sl none 1 ((freeE e).map strD)))
  (hN : ∀ e,okE e -> nodesE e ≤ 5000 -> CP (TT ()) 12 [exD e] (· = .raw (.int .i64 (nodesE e))))
  (hD : ∀ e,okE e -> nodesE e ≤ 5000 -> CP (TT ()) 14 [exD e] (· = .raw (.int .i64 (depthE e)))) :
  CP (TT ()) 7 [] (· = .raw (.bool true)) := by
 have c1 := cp_wk14 (hAt eE14 3 e_ok14 (by decide) (by decide)) (.cons e_wk14 (.refl _))
 have c2 := cp_wk14 (hR eE14 e_ok14 (by decide)) (.cons e_wk14 .nil)
 have c3 := cp_wk14 (hC eE14 e_ok14 (by decide)) (.cons e_wk14 .nil)
 have c4 := cp_wk14 (hF eE14 e_ok14 (by decide)) (.cons e_wk14 .nil)
 have c5 := cp_wk14 (hF xE14 x_ok14 (by decide)) (.cons (leaf_wk14 4 0 ⟨#[120]⟩) .nil)
 have c6 := cp_wk14 (hN eE14 e_ok14 (by decide)) (.cons e_wk14 .nil)
 have c7 := cp_wk14 (hD eE14 e_ok14 (by decide)) (.cons e_wk14 .nil)
 rw [show atP (atE eE14 (3 : Int).toNat) = .tup [.agg [.raw (.int .i64 4),.raw (.int .i64 0),.raw (.string ⟨#[120]⟩),.raw (.bool false),.sl none 5 [],.sl none 1 [],.sl none 7 []],.raw (.bool true)] by kernel_rfl] at c1
 rw [show rightE eE14 = true by kernel_rfl] at c2
 rw [show ((countE eE14 : Nat) : Int) = 3 by kernel_rfl] at c3
 rw [show (freeE eE14).map strD = [] by kernel_rfl] at c4
 rw [show (freeE xE14).map strD = [.raw (.string ⟨#[120]⟩)] by kernel_rfl] at c5
 rw [show ((nodesE eE14 : Nat) : Int) = 3 by kernel_rfl] at c6
 rw [show ((depthE eE14 : Nat) : Int) = 2 by kernel_rfl] at c7
 refine c4_run fun Q hQ => ?_
 cbv
 (repeat'((first|(apply zS;kernel_rfl)|(apply zD;decide +kernel)|(apply zE;decide +kernel)|(apply zF;decide +kernel)|(apply zL;decide +kernel)|(apply zM;decide +kernel)|(apply zN;intros)|(apply zO;intros)|(apply zT;omega)|(apply zU;omega)|(apply zP;omega;intros)|(apply zQ;omega;intros)|apply zR);cbv))
 refine .one c1 rfl rfl ?_
 cbv
 (repeat'((first|(apply zS;kernel_rfl)|(apply zD;decide +kernel)|(apply zE;decide +kernel)|(apply zF;decide +kernel)|(apply zL;decide +kernel)|(apply zM;decide +kernel)|(apply zN;intros)|(apply zO;intros)|(apply zT;omega)|(apply zU;omega)|(apply zP;omega;intros)|(apply zQ;omega;intros)|apply zR);cbv))
 refine .one c2 rfl rfl ?_
 cbv
 (repeat'((first|(apply zS;kernel_rfl)|(apply zD;decide +kernel)|(apply zE;decide +kernel)|(apply zF;decide +kernel)|(apply zL;decide +kernel)|(apply zM;decide +kernel)|(apply zN;intros)|(apply zO;intros)|(apply zT;omega)|(apply zU;omega)|(apply zP;omega;intros)|(apply zQ;omega;intros)|apply zR);cbv))
 refine .one c3 rfl rfl ?_
 cbv
 (repeat'((first|(apply zS;kernel_rfl)|(apply zD;decide +kernel)|(apply zE;decide +kernel)|(apply zF;decide +kernel)|(apply zL;decide +kernel)|(apply zM;decide +kernel)|(apply zN;intros)|(apply zO;intros)|(apply zT;omega)|(apply zU;omega)|(apply zP;omega;intros)|(apply zQ;omega;intros)|apply zR|(apply yA;omega)|(apply yB;omega)|(apply yC;omega)|(apply yD;omega)|(apply yE;omega)|(apply yF;omega)|(apply yG;omega)|(apply yH;omega)|(apply yI;omega)|(apply yJ;omega)|(apply yK;omega)|(apply yL;omega)|fail);cbv))
 refine .one c4 rfl rfl ?_
 cbv
 (repeat'((first|(apply zS;kernel_rfl)|(apply zD;decide +kernel)|(apply zE;decide +kernel)|(apply zF;decide +kernel)|(apply zL;decide +kernel)|(apply zM;decide +kernel)|(apply zN;intros)|(apply zO;intros)|(apply zT;omega)|(apply zU;omega)|(apply zP;omega;intros)|(apply zQ;omega;intros)|apply zR|(apply yA;omega)|(apply yB;omega)|(apply yC;omega)|(apply yD;omega)|(apply yE;omega)|(apply yF;omega)|(apply yG;omega)|(apply yH;omega)|(apply yI;omega)|(apply yJ;omega)|(apply yK;omega)|(apply yL;omega)|fail);cbv))
 rename_i z hz0 hz
 obtain rfl : z = 0 := by
  simp only [List.length_nil] at hz
  omega
 refine BinK.eqlT rfl ?_
 cbv
 (repeat'((first|(apply zS;kernel_rfl)|(apply zD;decide +kernel)|(apply zE;decide +kernel)|(apply zF;decide +kernel)|(apply zL;decide +kernel)|(apply zM;decide +kernel)|(apply zN;intros)|(apply zO;intros)|(apply zT;omega)|(apply zU;omega)|(apply zP;omega;intros)|(apply zQ;omega;intros)|apply zR|(apply yA;omega)|(apply yB;omega)|(apply yC;omega)|(apply yD;omega)|(apply yE;omega)|(apply yF;omega)|(apply yG;omega)|(apply yH;omega)|(apply yI;omega)|(apply yJ;omega)|(apply yK;omega)|(apply yL;omega)|fail);cbv))
 refine .one c5 rfl rfl ?_
 cbv
 (repeat'((first|(apply zS;kernel_rfl)|(apply zD;decide +kernel)|(apply zE;decide +kernel)|(apply zF;decide +kernel)|(apply zL;decide +kernel)|(apply zM;decide +kernel)|(apply zN;intros)|(apply zO;intros)|(apply zT;omega)|(apply zU;omega)|(apply zP;omega;intros)|(apply zQ;omega;intros)|apply zR|(apply yA;omega)|(apply yB;omega)|(apply yC;omega)|(apply yD;omega)|(apply yE;omega)|(apply yF;omega)|(apply yG;omega)|(apply yH;omega)|(apply yI;omega)|(apply yJ;omega)|(apply yK;omega)|(apply yL;omega)|fail);cbv))
 rename_i z hz0 hz
 obtain rfl : z = 1 := by
  simp only [List.length_cons,List.length_nil] at hz
  omega
 refine BinK.eqlT rfl ?_
 cbv
 (repeat'((first|(apply zS;kernel_rfl)|(apply zD;decide +kernel)|(apply zE;decide +kernel)|(apply zF;decide +kernel)|(apply zL;decide +kernel)|(apply zM;decide +kernel)|(apply zN;intros)|(apply zO;intros)|(apply zT;omega)|(apply zU;omega)|(apply zP;omega;intros)|(apply zQ;omega;intros)|apply zR|(apply yA;omega)|(apply yB;omega)|(apply yC;omega)|(apply yD;omega)|(apply yE;omega)|(apply yF;omega)|(apply yG;omega)|(apply yH;omega)|(apply yI;omega)|(apply yJ;omega)|(apply yK;omega)|(apply yL;omega)|fail);cbv))
 refine .one c6 rfl rfl ?_
 cbv
 (repeat'((first|(apply zS;kernel_rfl)|(apply zD;decide +kernel)|(apply zE;decide +kernel)|(apply zF;decide +kernel)|(apply zL;decide +kernel)|(apply zM;decide +kernel)|(apply zN;intros)|(apply zO;intros)|(apply zT;omega)|(apply zU;omega)|(apply zP;omega;intros)|(apply zQ;omega;intros)|apply zR|(apply yA;omega)|(apply yB;omega)|(apply yC;omega)|(apply yD;omega)|(apply yE;omega)|(apply yF;omega)|(apply yG;omega)|(apply yH;omega)|(apply yI;omega)|(apply yJ;omega)|(apply yK;omega)|(apply yL;omega)|fail);cbv))
 refine .one c7 rfl rfl ?_
 cbv
 (repeat'((first|(apply zS;kernel_rfl)|(apply zD;decide +kernel)|(apply zE;decide +kernel)|(apply zF;decide +kernel)|(apply zL;decide +kernel)|(apply zM;decide +kernel)|(apply zN;intros)|(apply zO;intros)|(apply zT;omega)|(apply zU;omega)|(apply zP;omega;intros)|(apply zQ;omega;intros)|apply zR|(apply yA;omega)|(apply yB;omega)|(apply yC;omega)|(apply yD;omega)|(apply yE;omega)|(apply yF;omega)|(apply yG;omega)|(apply yH;omega)|(apply yI;omega)|(apply yJ;omega)|(apply yK;omega)|(apply yL;omega)|fail);cbv))
 exact ⟨hQ _⟩
theorem bns_len_bulk : ∀ m : List Bd,m.length ≤ bulkL (bnsD m)
 | [] => Nat.zero_le _
 | p :: r => by
  have := bns_len_bulk r
  unfold bnsD at this ⊢
  obtain ⟨bn,k,n,nm,ls,ks⟩ := p
  simp only [List.map_cons,bulkL,List.length_cons,bnD,bulkD]
  omega
theorem df_fit {d : Df} (ho : okD d) (h : bulkD (dfD d) ≤ 1048576) : FitD d := by
 obtain ⟨⟨nm,bs,ps,k,n,tn,ls,ks⟩,ek,en,em,eh,et,el,ek'⟩ := d
 have h1 := bns_len_bulk bs
 have h2 := bns_len_bulk ps
 have h3 := exD_bulk (.mk ek en em eh et el ek')
 have h4 := tyD_bulk (.mk k n tn ls ks)
 simp only [dfD,bulkD,bulkL] at h
 simp only [exD,bulkD,bulkL] at h3
 simp only [tyD,bulkD,bulkL] at h4
 refine ⟨ho,?_,?_,?_,?_,?_,?_,?_⟩
 ·simp only
  omega
 ·simp only
  omega
 ·simp only
  omega
 ·exact bns_bulk (B := 1048576) (by simp only [bulkD];omega)
 ·exact bns_bulk (B := 1048576) (by simp only [bulkD];omega)
 ·simp only
  omega
 ·simp only
  omega
theorem tells14_law (P : ExpPk) (e : Ex7) (j : Int) (ho : okE e) (hz : szE e ≤ 1048576) (hj : -9223372036854775808 ≤ j ∧ j ≤ 9223372036854775807) :
  CP (TT ()) 3 [exD e,.raw (.int .i64 j)] (· = .raw (.bool true)) := c4_run fun Q hQ => tells14_run P e j ho hz hj Q hQ
theorem parts14_law (P : ExpPk) (e : Ex7) (ho : okE e) (hz : szE e ≤ 1048576) :
  CP (TT ()) 5 [exD e] (· = .raw (.bool true)) := c4_run fun Q hQ => parts14_run P e ho hz Q hQ
theorem same14_law (P : ExpPk) (a b : Ex7) (c d : Df) (ha : okE a) (hb : okE b) (hza : szE a ≤ 1048576) (hzb : szE b ≤ 1048576) (hc : okD c) (hd : okD d) (hzc : bulkD (dfD c) ≤ 1048576) (hzd : bulkD (dfD d) ≤ 1048576) :
  CP (TT ()) 4 [exD a,exD b,dfD c,dfD d] (· = .raw (.bool true)) := c4_run fun Q hQ => same14_run P a b c d ha hb hza hzb (df_fit hc hzc) (df_fit hd hzd) Q hQ
theorem sameB_al : ∀ (a b : List Bd),sameB a b = al2 sameP a b
 | [],[] => rfl
 | x :: r,y :: q => by simp only [sameB,al2,sameB_al r q,sameP]
 | [],_ :: _ => rfl
 | _ :: _,[] => rfl
theorem psameSig_cp (s t : Sg) (hs : okS s) (ht : okS t) (hb : s.bs.length ≤ 1000000) (hp : s.ps.length ≤ 1000000) : CP (TT ()) 26 [sgD s,sgD t] (· = .raw (.bool (sameSg s t))) := by
 have c1 := eqfB_cp 50 sameP s.bs t.bs (by omega) fun p hp q hq => psameBd_run p q (hs.2.1 p hp).2 (ht.2.1 q hq).2
 have c2 := eqfB_cp 50 sameP s.ps t.ps (by omega) fun p hp q hq => psameBd_run p q (hs.2.2.1 p hp).2 (ht.2.2.1 q hq).2
 rw [← sameB_al] at c1 c2
 have c3 := psame14_cp s.rs t.rs hs.2.2.2 ht.2.2.2
 have e : sameSg s t = (decide (s.nm = t.nm) && (sameB s.bs t.bs && (sameB s.ps t.ps && sameT s.rs t.rs))) := rfl
 have p1 := bns_pure s.bs
 have p2 := bns_pure t.bs
 have p3 := bns_pure s.ps
 have p4 := bns_pure t.ps
 have p5 := ty_pure s.rs
 have p6 := ty_pure t.rs
 rw [e]
 obtain ⟨k,n,tn,L0,K0,e0,e1,hL0,hK0⟩ := sg_node s
 obtain ⟨k',n',tn',L0',K0',e0',e1',hL0',hK0'⟩ := sg_node t
 rw [e0,e0']
 rw [e1,e1'] at c3
 rw [e1] at p5
 rw [e1'] at p6
 clear e0 e1 e0' e1' e
 generalize s.nm = a1
 generalize t.nm = a2
 generalize sameB s.bs t.bs = b1 at c1 ⊢
 generalize sameB s.ps t.ps = b2 at c2 ⊢
 generalize sameT s.rs t.rs = b3 at c3 ⊢
 generalize bnsD s.bs = B1 at c1 p1 ⊢
 generalize bnsD t.bs = B2 at c1 p2 ⊢
 generalize bnsD s.ps = B3 at c2 p3 ⊢
 generalize bnsD t.ps = B4 at c2 p4 ⊢
 refine c4_run fun Q hQ => ?_
 have q0 : a1 ≠ a2 -> ∀ h',Q (.raw (.bool false)) h' := fun h h' => by
  have := hQ h'
  rwa [decide_eq_false h] at this
 have q1 : a1 = a2 -> ∀ h',Q (.raw (.bool (b1 && (b2 && b3)))) h' := fun h h' => by
  have := hQ h'
  rwa [decide_eq_true h,Bool.true_and] at this
 clear hQ
 cbv
 (repeat'((first|(apply zS;kernel_rfl)|(apply zD;decide +kernel)|(apply zE;decide +kernel)|(apply zF;decide +kernel)|(apply zL;decide +kernel)|(apply zM;decide +kernel)|(apply zN;intros)|(apply zO;intros)|(apply zT;omega)|(apply zU;omega)|(apply zP;omega;intros)|(apply zQ;omega;intros)|apply zR);cbv))
 refine BinK.seql ?_ ?_ <;> intro hnm <;> cbv <;> (repeat'((first|(apply zS;kernel_rfl)|(apply zD;decide +kernel)|(apply zE;decide +kernel)|(apply zF;decide +kernel)|(apply zL;decide +kernel)|(apply zM;decide +kernel)|(apply zN;intros)|(apply zO;intros)|(apply zT;omega)|(apply zU;omega)|(apply zP;omega;intros)|(apply zQ;omega;intros)|apply zR);cbv))
 case' refine_2 => exact ⟨q0 hnm _⟩
 have q1 := q1 hnm
 refine .one c1 (by simp [pureL,pureD,p1,p2]) rfl ?_
 rcases b1 with _ | _
 ·cbv
  (repeat'((first|(apply zS;kernel_rfl)|(apply zD;decide +kernel)|(apply zE;decide +kernel)|(apply zF;decide +kernel)|(apply zL;decide +kernel)|(apply zM;decide +kernel)|(apply zN;intros)|(apply zO;intros)|(apply zT;omega)|(apply zU;omega)|(apply zP;omega;intros)|(apply zQ;omega;intros)|apply zR);cbv))
  exact ⟨q1 _⟩
 cbv
 (repeat'((first|(apply zS;kernel_rfl)|(apply zD;decide +kernel)|(apply zE;decide +kernel)|(apply zF;decide +kernel)|(apply zL;decide +kernel)|(apply zM;decide +kernel)|(apply zN;intros)|(apply zO;intros)|(apply zT;omega)|(apply zU;omega)|(apply zP;omega;intros)|(apply zQ;omega;intros)|apply zR);cbv))
 refine .one c2 (by simp [pureL,pureD,p3,p4]) rfl ?_
 rcases b2 with _ | _
 ·cbv
  (repeat'((first|(apply zS;kernel_rfl)|(apply zD;decide +kernel)|(apply zE;decide +kernel)|(apply zF;decide +kernel)|(apply zL;decide +kernel)|(apply zM;decide +kernel)|(apply zN;intros)|(apply zO;intros)|(apply zT;omega)|(apply zU;omega)|(apply zP;omega;intros)|(apply zQ;omega;intros)|apply zR);cbv))
  exact ⟨q1 _⟩
 cbv
 (repeat'((first|(apply zS;kernel_rfl)|(apply zD;decide +kernel)|(apply zE;decide +kernel)|(apply zF;decide +kernel)|(apply zL;decide +kernel)|(apply zM;decide +kernel)|(apply zN;intros)|(apply zO;intros)|(apply zT;omega)|(apply zU;omega)|(apply zP;omega;intros)|(apply zQ;omega;intros)|apply zR);cbv))
 refine .one c3 (cons_pure p5 (cons_pure p6 rfl)) rfl ?_
 cbv
 (repeat'((first|(apply zS;kernel_rfl)|(apply zD;decide +kernel)|(apply zE;decide +kernel)|(apply zF;decide +kernel)|(apply zL;decide +kernel)|(apply zM;decide +kernel)|(apply zN;intros)|(apply zO;intros)|(apply zT;omega)|(apply zU;omega)|(apply zP;omega;intros)|(apply zQ;omega;intros)|apply zR);cbv))
 exact ⟨q1 _⟩
theorem psameDef_cp (c d : Df) (hc : okD c) (hd : okD d) (hb : c.sg.bs.length ≤ 1000000) (hp : c.sg.ps.length ≤ 1000000) (hn : nodesE c.bd ≤ 1000000) : CP (TT ()) 28 [dfD c,dfD d] (· = .raw (.bool (sameDf c d))) := by
 have c1 := psameSig_cp c.sg d.sg hc.1 hd.1 hb hp
 have c2 := psameE_cp c.bd hc.2 hn d.bd hd.2
 have e : sameDf c d = (sameSg c.sg d.sg && sameE c.bd d.bd) := rfl
 have p1 := sg_pure c.sg
 have p2 := sg_pure d.sg
 have p3 := ex_pure c.bd
 have p4 := ex_pure d.bd
 rw [e]
 obtain ⟨nm,B,P,k,n,tn,L,K,ek,en,em,eh,eT,eL,eK,e0,e1,e2⟩ := df_node c
 obtain ⟨nm',B',P',k',n',tn',L',K',ek',en',em',eh',eT',eL',eK',e0',e1',e2'⟩ := df_node d
 rw [e0,e0']
 rw [e1,e1'] at c1
 rw [e2,e2'] at c2
 rw [e1] at p1
 rw [e1'] at p2
 rw [e2] at p3
 rw [e2'] at p4
 clear e0 e1 e2 e0' e1' e2' e
 generalize sameSg c.sg d.sg = b1 at c1 ⊢
 generalize sameE c.bd d.bd = b2 at c2 ⊢
 refine c4_run fun Q hQ => ?_
 cbv
 (repeat'((first|(apply zS;kernel_rfl)|(apply zD;decide +kernel)|(apply zE;decide +kernel)|(apply zF;decide +kernel)|(apply zL;decide +kernel)|(apply zM;decide +kernel)|(apply zN;intros)|(apply zO;intros)|(apply zT;omega)|(apply zU;omega)|(apply zP;omega;intros)|(apply zQ;omega;intros)|apply zR);cbv))
 refine .one c1 (cons_pure p1 (cons_pure p2 rfl)) rfl ?_
 rcases b1 with _ | _
 ·cbv
  (repeat'((first|(apply zS;kernel_rfl)|(apply zD;decide +kernel)|(apply zE;decide +kernel)|(apply zF;decide +kernel)|(apply zL;decide +kernel)|(apply zM;decide +kernel)|(apply zN;intros)|(apply zO;intros)|(apply zT;omega)|(apply zU;omega)|(apply zP;omega;intros)|(apply zQ;omega;intros)|apply zR);cbv))
  exact ⟨hQ _⟩
 cbv
 (repeat'((first|(apply zS;kernel_rfl)|(apply zD;decide +kernel)|(apply zE;decide +kernel)|(apply zF;decide +kernel)|(apply zL;decide +kernel)|(apply zM;decide +kernel)|(apply zN;intros)|(apply zO;intros)|(apply zT;omega)|(apply zU;omega)|(apply zP;omega;intros)|(apply zQ;omega;intros)|apply zR);cbv))
 refine .one c2 (cons_pure p3 (cons_pure p4 rfl)) rfl ?_
 cbv
 (repeat'((first|(apply zS;kernel_rfl)|(apply zD;decide +kernel)|(apply zE;decide +kernel)|(apply zF;decide +kernel)|(apply zL;decide +kernel)|(apply zM;decide +kernel)|(apply zN;intros)|(apply zO;intros)|(apply zT;omega)|(apply zU;omega)|(apply zP;omega;intros)|(apply zQ;omega;intros)|apply zR);cbv))
 exact ⟨hQ _⟩
theorem expPk : ExpPk where
 awake := awake14_cp (fun e j ho hn _ => eat_cp e j ho (by omega)) (fun e ho hn => eright_cp e ho (by omega)) (fun e ho hn => ecount_cp e ho (by omega)) (fun e ho hn => efree_cp e ho (by omega)) (fun e ho hn => enodes_cp e ho (by omega)) (fun e ho hn => edepth_cp e ho (by omega))
 right := fun e ho hn => eright_cp e ho (by omega)
 nodes := fun e ho hn => enodes_cp e ho (by omega)
 depth := fun e ho hn => edepth_cp e ho (by omega)
 count := fun e ho hn => ecount_cp e ho (by omega)
 at_ := fun e j ho hn _ => eat_cp e j ho (by omega)
 free := fun e ho hn => efree_cp e ho (by omega)
 calls := fun e ho hn => ecalls_cp e ho (by omega)
 same := fun a b ha hb hn _ => psameE_cp a ha (by omega) b hb
 sameSig := fun s t hs ht h1 h2 h3 h4 => psameSig_cp s t hs ht (by omega) (by omega)
 sameDef := fun c d hc hd hn _ h1 h2 h3 h4 => psameDef_cp c d hc hd (by omega) (by omega) (by unfold sizeN at hn;omega)
open Go.ChangeShapes Go.WideShapes Go.ChangeAt Go.RowKit
theorem own : ownKnob Try.prog.godebug = none := by kernel_rfl
theorem laid : laidOutB Try.prog = true := by kernel_rfl
section
variable {H : Type} {enc : TypeId × Value -> H} {P : Program}
theorem trodAll_below (hl : laidOutB P = true) {W W' : World} (hb : Below W.heap.size W W') : ∀ (ts : List TypeId) (vs : List Value) (ds : List (DataW H)) (p : List MemPlace),
    (∀ t, t ∈ ts -> P.readableRec t = true ∧ t < P.types.size) -> DataW.TrodAll enc P W 0 (fun _ => true) true ts vs ds p -> (∀ x, x ∈ p -> x.block < W.heap.size) ->
    DataW.TrodAll enc P W' 0 (fun b => decide (b < W.heap.size)) true ts vs ds p
  | [], vs, ds, p, _, h, _ => by
    cases vs with
    | nil => obtain ⟨rfl, rfl⟩ : ds = [] ∧ p = [] := by
               have := trodAll_nil h
               simp_all
             exact trodAll_mk0
    | cons v vs => have := trodAll_nil h
                   simp_all
  | t :: ts, vs, ds, p, ht, h, hp => by
    obtain ⟨v, vs, d, ds, p0, p1, rfl, rfl, rfl, h0, h1⟩ := trodAll_cons h
    refine trodAll_cons_mk ?_ (trodAll_below hl hb ts vs ds p1 (fun t h => ht t (List.mem_cons_of_mem _ h)) h1 (fun x hx => hp x (List.mem_append.2 (.inr hx))))
    exact Below.trod hl (ht t (List.mem_cons_self ..)).1 (ht t (List.mem_cons_self ..)).2 h0 hb (fun x hx => hp x (List.mem_append.2 (.inl hx)))
theorem law_post {f : Func} {s : ChangeSpec} {W W' : World} {args : Array Value} {ds gs : List (DataW H)} {before : List MemPlace} {bt : TypeId}
    (hl : laidOutB P = true) (hW : DataW.Whole enc P f.params.toList s.vars false W args.toList ds gs before) (hsv : s.vars = []) (hrt : f.resultTypes = #[bt]) (hbt : P.underlying bt = some .bool)
    (hr : ∀ t, t ∈ f.params.toList -> P.readableRec t = true ∧ t < P.types.size)
    (hfn : ∀ l : List (DataW H), l.length = f.params.toList.length -> s.fn H l = { results := [.lit (.bool true)], args := l })
    (hb : Below W.heap.size W W') : s.post enc P f false true false false W args (.bool true) W' := by
  have hW' := hW
  obtain ⟨p, q, hA, hV, hpq, _, _⟩ := hW
  rw [hsv] at hV
  obtain ⟨rfl, rfl⟩ := trodVars_none hV
  have hlen : ds.length = f.params.toList.length := by
    have : ∀ (ts : List TypeId) (vs : List Value) (ds : List (DataW H)) (p : List MemPlace), DataW.TrodAll enc P W 0 (fun _ => true) true ts vs ds p -> ds.length = ts.length := by
      intro ts
      induction ts with
      | nil => intro vs ds p h
               cases vs with
               | nil => have := trodAll_nil h; simp_all
               | cons v vs => have := trodAll_nil h; simp_all
      | cons t ts ih => intro vs ds p h
                        obtain ⟨v, vs, d, ds, p0, p1, rfl, rfl, rfl, h0, h1⟩ := trodAll_cons h
                        simp [ih _ _ _ h1]
    exact this _ _ _ _ hA
  have hf := hfn (ds ++ []) (by simpa using hlen)
  have hlt : ∀ x ∈ before, x.block < W.heap.size := fun x hx => hW'.lt x hx
  refine ⟨ds, [], before, [] ++ [], p, [], hW', ?_, ?_, ?_, hb.frame _, fun h => by cases h⟩
  · rw [hf, hrt]
    exact trodAll_mk1 (shut_bool hbt true)
  · rw [hf]
    simp only [List.append_nil]
    refine trodAll_below hl hb _ _ _ _ hr hA (fun x hx => hlt x ?_)
    rw [hpq]
    exact List.mem_append.2 (.inl hx)
  · rw [hf, hsv]
    rfl
end
end Go.Proofs.Ytglefhgcfijiaaa

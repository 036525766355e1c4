/- Parts of the proof: TyRt, TyRi, BdR, SbW, EpO1, ExD, ExO. -/
import Derived.RangeFuncNested
import Derived.RangeFuncBound
import Derived.RangeFuncCalls
import Derived.RangeFuncLeaves
import Derived.Shelf.Abstract
import Derived.Shelf.RegionOpen
import Derived.OwnWalkIn
import Derived.TacticsInMore
import Derived.LoopNIn
import Derived.LoopIn
import Derived.Test.YtglefhgcfijiaaaGAk
import Derived.Test.YtglefhgcfijiaaaGAg
import Derived.Test.YtglefhgcfijiaaaGAf
import Derived.Test.YtglefhgcfijiaaaGAi
set_option linter.unusedSimpArgs false
set_option linter.unusedVariables false
set_option maxRecDepth 1000000
set_option maxHeartbeats 40000000
namespace Go.Proofs.Ytglefhgcfijiaaa
open Go.RowKit Go.Shelf
attribute [local go_sem] Oper.semAt_some
mutual
theorem right_walk : ∀ (t : Ty5) (d : Int),(walkT d t).all (fun p => headT p.2) = rightT varB risingB t
 | .mk k n nm ls ks,d => by
  simp only [walkT,rightT,List.all_cons]
  rw [rightL_walk ks,Bool.and_comm]
  try rfl
theorem rightL_walk : ∀ (ks : List Ty5) (d : Int),(walkL d ks).all (fun p => headT p.2) = rightL varB risingB ks
 | [],d => rfl
 | t :: r,d => by
  simp only [walkL,rightL,List.all_append]
  rw [right_walk t,rightL_walk r]
end
theorem all_part {w0 : World} {pre : List (Nd w0)} {l : List (Int × Ty5)} {p : Int × Ty5 -> Bool} (h : pre.map Nd.key <+: l) {y : Nd w0} (hy : y ∈ pre) (hp : p y.key = false) : l.all p = false := by
 rw [Bool.eq_false_iff]
 intro hc
 rw [List.all_eq_true.1 hc y.key (h.subset (List.mem_map_of_mem hy))] at hp
 cases hp
theorem all_keys {w0 : World} {pre : List (Nd w0)} {l : List (Int × Ty5)} {p : Int × Ty5 -> Bool} (h : pre.map Nd.key = l) (hy : ∀ y ∈ pre,p y.key = true) : l.all p = true := by
 rw [← h,List.all_eq_true]
 intro q hq
 obtain ⟨y,hy',rfl⟩ := List.mem_map.1 hq
 exact hy y hy'
theorem sound_nd {w0 : World} (x : Nd w0) (W : World) (hB : Below w0.heap.size w0 W) : Calls Try.prog 80 #[.agg #[x.v0,x.v1,x.v2,x.v3,x.v4]] W fun e w' =>
   e = .returned (.bool (headT x.t)) ∧ Below W.heap.size W w' := by
 obtain ⟨d,⟨k,n,nm,ls,ks⟩,v0,v1,v2,v3,v4,h⟩ := x
 obtain ⟨rfl,rfl,⟨rfl,hm⟩,hl,hk,h4⟩ := h
 obtain ⟨_,a3,cap3,rfl⟩ := hl.form
 obtain ⟨a4,cap4,rfl⟩ : ∃ a cap,v4 = .slice a ks.length cap := by
  rcases h4 with ⟨a,cap,rfl,rfl⟩ | ⟨b,off,cap,rfl,_⟩
  ·exact ⟨a,cap,rfl⟩
  ·exact ⟨_,cap,rfl⟩
 exact sound_any k n nm ls ks.length a3 cap3 a4 cap4 W hm (hl.mono hB) hk
theorem Boxed.below {W W' : World} {B : Nat} {t : TypeId} {v : Value} (h : Boxed W B t v) (hb : Below W.heap.size W W') : Boxed W' B t v := (hb.block B h.lt).trans h
theorem pright_any (t : Ty5) (v0 v1 v2 v3 v4 : Value) (w : World) (hT : TyIn w t v0 v1 v2 v3 v4) :
  Calls Try.prog 70 #[.agg #[v0,v1,v2,v3,v4]] w fun e w' => e = .returned (.bool (rightT varB risingB t)) ∧ Below w.heap.size w w' := by
 refine (callsIn_wide (n := 8)).1 ?_
 have hf1 : Fence.wide.fn 64 := trivial
 have HT := Asd.mk hT
 clear hT
 refine callsIn_of_wp_marks Try.func70 rfl trivial ?_ rfl
 simp only [Try.ntmps70,List.size_toArray,List.length_cons,List.length_nil,Nat.reduceAdd,Nat.reduceSub,Array.replicate_succ,Array.replicate_zero,List.push_toArray,List.append_toArray,List.nil_append,List.cons_append]
 gi_wp2_with (gi_at_call 64;refine (callsIn_wide.2 (nodes_any v0 v1 v2 v3 v4 _)).mono ?_;rintro e w' ⟨rfl,rfl⟩)
 obtain ⟨w1,hw1⟩ : ∃ w1,w.alloc (.cells #[v0,v1,v2,v3,v4] 38) = w1 := ⟨_,rfl⟩
 have hb1 : Below w.heap.size w w1 := by rw [← hw1];exact (Below.refl _ w).alloc (Nat.le_refl _) _
 have hs1 : w1.heap.size = w.heap.size + 1 := by rw [← hw1];simp
 rw [hw1]
 clear hw1
 have bR := boxed_nodesW (Boxed.new w1 4 (.bool false)) v0 v1 v2 v3 v4
 have bA := nodesW_root (w1.alloc (.cells #[.bool false] 4)) v0 v1 v2 v3 v4
 have bP := nodesW_parts (w1.alloc (.cells #[.bool false] 4)) v0 v1 v2 v3 v4
 have hB0 : Below w.heap.size w (nodesW (w1.alloc (.cells #[.bool false] 4)) v0 v1 v2 v3 v4) := below_nodesW (hb1.alloc (by omega) _) (by simp only [World.size_alloc] <;> omega) v0 v1 v2 v3 v4
 have hsz : (nodesW (w1.alloc (.cells #[.bool false] 4)) v0 v1 v2 v3 v4).heap.size = w.heap.size + 5 := by rw [nodesW_size];simp only [World.size_alloc] <;> omega
 simp only [World.size_alloc,hs1] at bR bA bP
 obtain ⟨W0,hW0⟩ : ∃ W0,nodesW (w1.alloc (.cells #[.bool false] 4)) v0 v1 v2 v3 v4 = W0 := ⟨_,rfl⟩
 rw [hW0] at bR bA bP hB0 hsz ⊢
 clear hW0
 refine wpIn_rangeFunc_ownH rfl (by omega) (gf := 87) (lb := #[.pointer (some ⟨w.heap.size + 1 + 1 + 1,0,none⟩),.pointer (some ⟨w.heap.size + 1 + 1 + 1 + 1,0,none⟩)]) rfl trivial (enters_of Try.func87 (by kernel_rfl) rfl)
  (nodes_stops 7 (w.heap.size + 1 + 1 + 1) (w.heap.size + 1 + 1 + 1 + 1) (w.heap.size + 5) (fun k => k = w.heap.size + 1) (fun k h => by omega) w W0 t v0 v1 v2 v3 v4 HT.out hB0 (by omega) bA bP) kpS_t (kpS_b (by omega)) (Below.refl _ _) (fun _ => rfl)
  (fun pre W => (Boxed W (w.heap.size + 1) 4 (.bool false) ∧ (∀ y ∈ pre,headT y.t = true)) ∧ Below w.heap.size w W)
  (fun c pre W => ((c = .ret ∧ ∃ y ∈ pre,headT y.t = false) ∧ Boxed W (w.heap.size + 1) 4 (.bool false)) ∧ Below w.heap.size w W)
  (OwnFrom.and (OwnFrom.and (Own.from (boxed_own _ _ _) _) (ownFrom_pure _ _)) (ownFrom_below (Nat.le_refl _) (by omega)))
  (fun c => OwnFrom.and (OwnFrom.and (ownFrom_pure _ _) (Own.from (boxed_own _ _ _) _)) (ownFrom_below (Nat.le_refl _) (by omega)))
  ⟨⟨bR,by simp⟩,hB0⟩
  (fun x a' W => ∃ Bx,Box5 W Bx x ∧ a' = { tmps := #[.agg #[v0,v1,v2,v3,v4],.pointer (some ⟨w.heap.size,0,none⟩),.pointer (some ⟨w.heap.size + 1,0,none⟩),undef,.pointer (some ⟨Bx,0,none⟩),.agg #[v0,v1,v2,v3,v4],.func (.func 87) #[] #[.pointer (some ⟨w.heap.size + 1 + 1 + 1,0,none⟩),.pointer (some ⟨w.heap.size + 1 + 1 + 1 + 1,0,none⟩)],.int .i64 x.d,.agg #[x.v0,x.v1,x.v2,x.v3,x.v4],undef,undef,undef],defers := [] })
  (fun x a' _ X Y row hs hg hr => by
   obtain ⟨Bx,h1,h2⟩ := hs
   exact ⟨Bx,box5_own Bx x () X Y row h1 hg (fun r e => (hr r e).2),h2⟩)
  ?assign ?body ?done ?stop
 case assign =>
  rintro l pre x W K ⟨⟨bR1,h3⟩,hB1⟩ hK
  have hW := hB1.size
  obtain ⟨d,t',u0,u1,u2,u3,u4,hu⟩ := x
  obtain ⟨k',n',nm',a',l',cc',a'',l'',cc'',rfl,rfl,rfl,rfl,rfl⟩ := hu.form
  simp only [Nd.vals,zip2]
  gi_wp2
  exact hK _ _ ((KeepsOthers.alloc _ _).from _) (KpS.of_below hW ((Below.refl _ _).alloc (Nat.le_refl _) _)) ⟨⟨bR1.alloc _,h3⟩,hB1.alloc hB1.size _⟩ ⟨W.heap.size,World.alloc_heap_new W _,rfl⟩
 case body =>
  rintro l pre x a' W hl hr ⟨⟨bR1,h3⟩,hB1⟩ ⟨Bx,bX,rfl⟩ hlt
  have c0 := box_cell (i := 0) bX rfl
  have c1 := box_cell (i := 1) bX rfl
  have c2 := box_cell (i := 2) bX rfl
  have c3 := box_cell (i := 3) bX rfl
  have c4 := box_cell (i := 4) bX rfl
  have h1' : 1 ≤ 8 - 1 - 1 := by omega
  have hf2 : Fence.wide.fn 80 := trivial
  have hf3 : (Fence.wide.inRound l).fn 80 := trivial
  have HS := Asd.mk (sound_nd x W hB1)
  rcases Bool.eq_false_or_eq_true (headT x.t) with hq | hq
  ·gi_wp2_with (gi_at_call 80;refine (CallsIn.inRound l (callsIn_wide.2 HS.out)).mono ?_;rintro e w2 ⟨rfl,hb2⟩;rw [hq])
   refine ⟨keepsFrom_below hb2,KpS.of_below hB1.size hb2,⟨Boxed.below bR1 hb2,fun y hy => ?_⟩,hB1.trans (hb2.mono hB1.size)⟩
   rcases List.mem_append.1 hy with hy | hy
   ·exact h3 y hy
   ·rw [List.mem_singleton.1 hy]
    exact hq
  ·gi_wp2_with (gi_at_call 80;refine (CallsIn.inRound l (callsIn_wide.2 HS.out)).mono ?_;rintro e w2 ⟨rfl,hb2⟩;rw [hq];have cR := (Boxed.below bR1 hb2).cell;have fR := (Boxed.below bR1 hb2).frozen)
   refine ⟨(keepsFrom_below hb2).trans ((KeepsOthers.setCell _ _ _).from _),⟨⟨rfl,⟨_,List.mem_append_right _ (List.mem_singleton.2 rfl),hq⟩⟩,(Boxed.below bR1 hb2).set _⟩,(hB1.trans (hb2.mono hB1.size)).setCell (p := ⟨w.heap.size + 1,0,none⟩) (by simp) _⟩
 case done =>
  rintro D xs W hD hxs ⟨⟨bR1,h3⟩,hB1⟩ hK
  have cR := bR1.cell
  have fR := bR1.frozen
  gi_wp2
  have hK' := (KeepsOthers.setCell W ⟨w.heap.size + 1,0,none⟩ (.bool true)).same D _ hK rfl
  refine ⟨by simp,.inl ⟨_,_,rfl,run_takeDeferred hK',?_⟩⟩
  have hc5 := cell_kept (bR1.set (.bool true)).cell (grownBy_putObj' _ D (.deferred none)) (fun r e => by cases e;exact ⟨_,hK',rfl⟩)
  refine ⟨.bool true,?_,by rw [← right_walk t 1,all_keys hxs (fun y hy => h3 y hy)],(hB1.setCell (p := ⟨w.heap.size + 1,0,none⟩) (by simp) _).trans (belowK_b (w := w) (Nat.le_refl _) _ D _ _ (by omega) hK' rfl rfl)⟩
  simp [results,Try.results70,go_sem,hc5]
 case stop =>
  rintro D c pre W hD hpre ⟨⟨⟨rfl,y,hy,hk⟩,bR1⟩,hB1⟩ hK
  gi_wp2
  refine ⟨by simp,.inl ⟨_,_,rfl,run_takeDeferred hK,?_⟩⟩
  have hc5 := cell_kept bR1.cell (grownBy_putObj' _ D (.deferred none)) (fun r e => by cases e;exact ⟨_,hK,rfl⟩)
  refine ⟨.bool false,?_,by rw [← right_walk t 1,all_part hpre hy hk],hB1.trans (belowK_b (w := w) (Nat.le_refl _) W D _ _ (by omega) hK rfl rfl)⟩
  simp [results,Try.results70,go_sem,hc5]
open Go.RowKit Go.Deep Go.Sort
theorem rvar_any (s : ByteArray) (w : World) (hs : s.size ≤ maxLen) : Calls Try.prog 86 #[.string s] w fun e w' => e = .returned (.bool (varB s)) ∧ Below w.heap.size w w' := by
 go_enter Try.func86,Try.ntmps86
 go_wp2_with (go_at_call 73;refine (rkind_any _ _ hs).mono ?_;rintro e w' ⟨rfl,hb⟩)
 go_ret
 exact ⟨rfl,hb⟩
theorem rright_all (t : Ty5) (v0 v1 v2 v3 v4 : Value) (w : World) (hT : TyIn w t v0 v1 v2 v3 v4) :
  Calls Try.prog 74 #[.agg #[v0,v1,v2,v3,v4]] w fun e w' => e = .returned (.bool (rightT varB risingB t)) ∧ Below w.heap.size w w' :=
 rright_any varB risingB ⟨fun s w hs => rvar_any s w hs⟩ ⟨fun v ss w h => rrising_any v ss w h⟩ _ t _ _ _ _ _ w (Nat.le_refl _) hT
open Go.RowKit Pv
theorem right9_cp (t : Ty5) (ho : okT t) : CP (TT ()) 74 [tyD t] (· = .raw (.bool (rightT varB risingB t))) :=
 cp_raw (callable_at Try.func74 (by kernel_rfl) rfl) fun S w args r => by
  obtain ⟨v,rfl,h⟩ := rdL_one r
  obtain ⟨v0,v1,v2,v3,v4,rfl,hT⟩ := ty_in t ho h
  exact rright_all t _ _ _ _ _ w hT
theorem lenq_str {ty : TypeId} {cs : Array Bool} {s : ByteArray} {z : Int} {K : D -> Prop} (hz : (s.size : Int) = z) (hk : K (.raw (.int .i64 z))) : BuiltK TT .len #[9] ty cs [.string s] K := by
 refine ⟨.int .i64 z,?_,hk⟩
 rw [← hz]
 try rfl
theorem quo_eight {t : TypeId} {x y : Operand} {a : Int} {K : D -> Prop} (h : 0 ≤ a ∧ a ≤ 9223372036854775807) (hk : ∀ r,r = a / 8 -> K (.raw (.int .i64 r))) : BinK TT .quo t x y (.int .i64 a) (.int .i64 8) K :=
 ⟨.int .i64 (IntKind.i64.wrap (a.tdiv 8)),by first | rfl | kernel_rfl,by rw [IntWalk.i64_quo _ _ (by omega)];exact hk _ rfl⟩
theorem fine14_cp (s : ByteArray) (hs : s.size ≤ maxLen) : CP (TT ()) 60 [.raw (.string s)] (· = .raw (.bool (fineB s))) :=
 cp_raw (callable_at Try.func60 (by kernel_rfl) rfl) fun S w args r => by
  obtain ⟨v,rfl,h⟩ := rdL_one r
  simp only [Pv.Rd] at h
  subst h
  exact rfine_any s w hs
theorem rising14_cp (l : List ByteArray) (hs : ∀ u ∈ l,u.size ≤ maxLen) : CP (TT ()) 61 [.sl none 1 (l.map strD)] (· = .raw (.bool (risingB l))) :=
 cp_raw (callable_at Try.func61 (by kernel_rfl) rfl) fun S w args r => by
  obtain ⟨v,rfl,h⟩ := rdL_one r
  exact rrising_any v l w (strs_in h hs)
def typesB (l : List Ty5) : Bool := l.all fun t => rightT varB risingB t && !hasT 9 t
theorem typesB_at {l : List Ty5} : typesB l = true ↔ ∀ (j : Nat) (t : Ty5),l[j]? = some t -> rightT varB risingB t = true ∧ hasT 9 t = false := by
 unfold typesB
 rw [List.all_eq_true]
 constructor
 ·intro h j t ht
  have := h t (List.mem_of_getElem? ht)
  simpa only [Bool.and_eq_true,Bool.not_eq_true'] using this
 ·intro h t ht
  obtain ⟨j,hj⟩ := List.getElem?_of_mem ht
  simpa only [Bool.and_eq_true,Bool.not_eq_true'] using h j t hj
theorem types14_run (l : List Ty5) (hlo : okT.okL l) (hl : l.length ≤ 1000000) (Q : D -> H -> Prop) (hQ : ∀ h',Q (.raw (.bool (typesB l))) h') : wfun TT 63 [.sl none 5 (tysD l)] [] Q := by
 have q2 : typesB l ≠ true -> ∀ h',Q (.raw (.bool false)) h' := fun h => by rw [Bool.eq_false_iff.2 h] at hQ;exact hQ
 have q3 : typesB l = true -> ∀ h',Q (.raw (.bool true)) h' := fun h => by rw [h] at hQ;exact hQ
 have hKl := tys_len l
 have hKi := tys_idb l
 have hKat := fun i => tys_at (ks := l) (i := i)
 clear hQ
 generalize tysD l = KS at hKl hKi hKat ⊢
 cbv
 (repeat'((first|(apply zS;kernel_rfl)|(apply zD;decide +kernel)|(apply zE;decide +kernel)|(apply zF;decide +kernel)|(apply zL;decide +kernel)|(apply zM;decide +kernel)|(apply zN;intros)|(apply zO;intros)|(apply zT;omega)|(apply zU;omega)|(apply zP;omega;intros)|(apply zQ;omega;intros)|apply zR);cbv))
 refine LoopK.put (X := Int) (fun x => [(3,.raw (.int .i64 x))]) (fun _ => []) (fun x => l.length - x.toNat) (fun x => 0 ≤ x ∧ x.toNat ≤ l.length ∧ ∀ (j : Nat) (t : Ty5),j < x.toNat -> l[j]? = some t -> rightT varB risingB t = true ∧ hasT 9 t = false) 0 ⟨by simp,by simp,fun j t hj => absurd hj (Nat.not_lt_zero _)⟩ rfl rfl ?_
 rintro i N ⟨h0,hi,hj⟩ hN
 simp only at h0 hi hj hN ⊢
 cbv
 (repeat'((first|(apply zS;kernel_rfl)|(apply zD;decide +kernel)|(apply zE;decide +kernel)|(apply zF;decide +kernel)|(apply zL;decide +kernel)|(apply zM;decide +kernel)|(apply zN;intros)|(apply zO;intros)|(apply zT;omega)|(apply zU;omega)|(apply zP;omega;intros)|(apply zQ;omega;intros)|apply zR);cbv))
 refine BinK.lss ?_ ?_ <;> intro hlt <;> cbv <;> (repeat'((first|(apply zS;kernel_rfl)|(apply zD;decide +kernel)|(apply zE;decide +kernel)|(apply zF;decide +kernel)|(apply zL;decide +kernel)|(apply zM;decide +kernel)|(apply zN;intros)|(apply zO;intros)|(apply zT;omega)|(apply zU;omega)|(apply zP;omega;intros)|(apply zQ;omega;intros)|apply zR);cbv))
 ·obtain ⟨t,ht,hK⟩ := hKat i.toNat (by omega)
  have hto := okL_get hlo t (List.mem_of_getElem? ht)
  have c1 := right9_cp t hto
  have c2 := hasq_cp 9 t hto
  have hpt := ty_pure t
  have hno : ¬ (rightT varB risingB t = true ∧ hasT 9 t = false) -> ∀ h',Q (.raw (.bool false)) h' := fun e => q2 fun h => e (typesB_at.1 h _ t ht)
  have hnext : rightT varB risingB t = true -> hasT 9 t = false -> ∀ r : Int,r = i + 1 -> ∀ (j : Nat) (t : Ty5),j < r.toNat -> l[j]? = some t -> rightT varB risingB t = true ∧ hasT 9 t = false := fun e1 e2 r hr j x hjr hx => by
   by_cases hji : j = i.toNat
   ·rw [hji,ht] at hx
    cases hx
    exact ⟨e1,e2⟩
   ·exact hj j x (by omega) hx
  generalize rightT varB risingB t = b1 at c1 hno hnext
  generalize hasT 9 t = b2 at c2 hno hnext
  obtain ⟨k0,n0,m0,L0,K0,f0,i0,j0⟩ := c4_node t
  rw [f0] at c1 c2 hpt hK
  clear f0 q2 q3 hj ht i0 j0
  refine IdxK.intro h0 hK ?_
  cbv
  (repeat'((first|(apply zS;kernel_rfl)|(apply zD;decide +kernel)|(apply zE;decide +kernel)|(apply zF;decide +kernel)|(apply zL;decide +kernel)|(apply zM;decide +kernel)|(apply zN;intros)|(apply zO;intros)|(apply zT;omega)|(apply zU;omega)|(apply zP;omega;intros)|(apply zQ;omega;intros)|apply zR);cbv))
  refine .one c1 (cons_pure hpt rfl) rfl ?_
  rcases b1 with _ | _
  ·cbv
   (repeat'((first|(apply zS;kernel_rfl)|(apply zD;decide +kernel)|(apply zE;decide +kernel)|(apply zF;decide +kernel)|(apply zL;decide +kernel)|(apply zM;decide +kernel)|(apply zN;intros)|(apply zO;intros)|(apply zT;omega)|(apply zU;omega)|(apply zP;omega;intros)|(apply zQ;omega;intros)|apply zR);cbv))
   exact ⟨hno (fun h => by cases h.1) _⟩
  cbv
  (repeat'((first|(apply zS;kernel_rfl)|(apply zD;decide +kernel)|(apply zE;decide +kernel)|(apply zF;decide +kernel)|(apply zL;decide +kernel)|(apply zM;decide +kernel)|(apply zN;intros)|(apply zO;intros)|(apply zT;omega)|(apply zU;omega)|(apply zP;omega;intros)|(apply zQ;omega;intros)|apply zR);cbv))
  refine IdxK.intro h0 hK ?_
  cbv
  (repeat'((first|(apply zS;kernel_rfl)|(apply zD;decide +kernel)|(apply zE;decide +kernel)|(apply zF;decide +kernel)|(apply zL;decide +kernel)|(apply zM;decide +kernel)|(apply zN;intros)|(apply zO;intros)|(apply zT;omega)|(apply zU;omega)|(apply zP;omega;intros)|(apply zQ;omega;intros)|apply zR);cbv))
  refine .one c2 (cons_pure hpt rfl) rfl ?_
  rcases b2 with _ | _
  case' true =>
   cbv
   (repeat'((first|(apply zS;kernel_rfl)|(apply zD;decide +kernel)|(apply zE;decide +kernel)|(apply zF;decide +kernel)|(apply zL;decide +kernel)|(apply zM;decide +kernel)|(apply zN;intros)|(apply zO;intros)|(apply zT;omega)|(apply zU;omega)|(apply zP;omega;intros)|(apply zQ;omega;intros)|apply zR);cbv))
   exact ⟨hno (fun h => by cases h.2) _⟩
  have hnext := hnext rfl rfl
  cbv
  (repeat'((first|(apply zS;kernel_rfl)|(apply zD;decide +kernel)|(apply zE;decide +kernel)|(apply zF;decide +kernel)|(apply zL;decide +kernel)|(apply zM;decide +kernel)|(apply zN;intros)|(apply zO;intros)|(apply zT;omega)|(apply zU;omega)|(apply zP;omega;intros)|(apply zQ;omega;intros)|apply zR);cbv))
  rename_i r hr
  have hnext := hnext r hr
  exact RoundK.next r ⟨by omega,by omega,hnext⟩ (by omega) rfl rfl
 ·have hLt : typesB l = true := typesB_at.2 fun j t ht => hj j t (by have := (List.getElem?_eq_some_iff.1 ht).1;omega) ht
  exact ⟨q3 hLt _⟩
theorem types14_cp (l : List Ty5) (hlo : okT.okL l) (hl : l.length ≤ 1000000) : CP (TT ()) 63 [.sl none 5 (tysD l)] (· = .raw (.bool (typesB l))) := c4_run fun Q hQ => types14_run l hlo hl Q hQ
def shI (k : Int) (hs : Bool) (z : Int) : Int × Int × Int × Int :=
 if k = 5 then (0,1,2,2) else if k = 6 then (0,0,3,3) else if k = 7 then (0,1,1,1) else if k = 8 ∨ k = 11 then (0,0,2,2) else if k = 9 then (0,0,z,z) else if k = 10 then (0,0,1,1)
 else if k = 12 then (1,1,1,1) else if k = 13 then (if hs = true then (1,3,0,4) else (0,0,0,4)) else (0,0,0,0)
def quadD (x : Int × Int × Int × Int) : D := .tup [.raw (.int .i64 x.1),.raw (.int .i64 x.2.1),.raw (.int .i64 x.2.2.1),.raw (.int .i64 x.2.2.2)]
theorem shape_run (k n : Int) (nm : ByteArray) (hs : Bool) (ts : List Ty5) (ls : List ByteArray) (ks : List Ex7) (z : Int) (hz0 : 0 ≤ z) (hz : z.toNat = ls.length) (Q : D -> H -> Prop) (hQ : ∀ h',Q (quadD (shI k hs z)) h') : wfun TT 62 [exD (.mk k n nm hs ts ls ks)] [] Q := by
 have hLi := strs_idb ls
 have hLl : (ls.map strD).length = ls.length := by simp
 have hTi := tys_idb ts
 have hKi := exs_idb ks
 simp only [exD]
 generalize ls.map strD = LS at hLi hLl ⊢
 generalize tysD ts = TS at hTi ⊢
 generalize exsD ks = KS at hKi ⊢
 have hQ : ∀ a b c d : Int,(a,b,c,d) = shI k hs z -> ∀ h',Q (.tup [.raw (.int .i64 a),.raw (.int .i64 b),.raw (.int .i64 c),.raw (.int .i64 d)]) h' := fun a b c d e h' => by
  have := hQ h'
  rw [← e] at this
  exact this
 unfold shI at hQ
 rcases (show k = 5 ∨ k = 6 ∨ k = 7 ∨ k = 8 ∨ k = 9 ∨ k = 10 ∨ k = 11 ∨ k = 12 ∨ k = 13 ∨ (k ≠ 5 ∧ k ≠ 6 ∧ k ≠ 7 ∧ k ≠ 8 ∧ k ≠ 9 ∧ k ≠ 10 ∧ k ≠ 11 ∧ k ≠ 12 ∧ k ≠ 13) by omega) with h | h | h | h | h | h | h | h | h | h
 case inr.inr.inr.inr.inl =>
  cbv
  (repeat'((first|(apply zS;kernel_rfl)|(apply zD;decide +kernel)|(apply zE;decide +kernel)|(apply zF;decide +kernel)|(apply zL;decide +kernel)|(apply zM;decide +kernel)|(apply zN;intros)|(apply zO;intros)|(apply zT;omega)|(apply zU;omega)|(apply zP;omega;intros)|(apply zQ;omega;intros)|apply zR|(apply yA;omega)|(apply yB;omega)|(apply yC;omega)|(apply yD;omega)|(apply yE;omega)|(apply yF;omega)|(apply yG;omega)|(apply yH;omega)|(apply yI;omega)|(apply yJ;omega)|(apply yK;omega)|(apply yL;omega)|fail);cbv))
  rename_i z1 a1 a2 z2 b1 b2
  obtain rfl : z1 = z := by omega
  obtain rfl : z2 = z1 := by omega
  exact ⟨hQ _ _ _ _ (by simp [h]) _⟩
 case inr.inr.inr.inr.inr.inr.inr.inr.inl =>
  cases hs with
  | true =>
   cbv
   (repeat'((first|(apply zS;kernel_rfl)|(apply zD;decide +kernel)|(apply zE;decide +kernel)|(apply zF;decide +kernel)|(apply zL;decide +kernel)|(apply zM;decide +kernel)|(apply zN;intros)|(apply zO;intros)|(apply zT;omega)|(apply zU;omega)|(apply zP;omega;intros)|(apply zQ;omega;intros)|apply zR|(apply yA;omega)|(apply yB;omega)|(apply yC;omega)|(apply yD;omega)|(apply yE;omega)|(apply yF;omega)|(apply yG;omega)|(apply yH;omega)|(apply yI;omega)|(apply yJ;omega)|(apply yK;omega)|(apply yL;omega)|fail);cbv))
   exact ⟨hQ _ _ _ _ (by simp [h]) _⟩
  | false =>
   cbv
   (repeat'((first|(apply zS;kernel_rfl)|(apply zD;decide +kernel)|(apply zE;decide +kernel)|(apply zF;decide +kernel)|(apply zL;decide +kernel)|(apply zM;decide +kernel)|(apply zN;intros)|(apply zO;intros)|(apply zT;omega)|(apply zU;omega)|(apply zP;omega;intros)|(apply zQ;omega;intros)|apply zR|(apply yA;omega)|(apply yB;omega)|(apply yC;omega)|(apply yD;omega)|(apply yE;omega)|(apply yF;omega)|(apply yG;omega)|(apply yH;omega)|(apply yI;omega)|(apply yJ;omega)|(apply yK;omega)|(apply yL;omega)|fail);cbv))
   exact ⟨hQ _ _ _ _ (by simp [h]) _⟩
 all_goals
  cbv
  (repeat'((first|(apply zS;kernel_rfl)|(apply zD;decide +kernel)|(apply zE;decide +kernel)|(apply zF;decide +kernel)|(apply zL;decide +kernel)|(apply zM;decide +kernel)|(apply zN;intros)|(apply zO;intros)|(apply zT;omega)|(apply zU;omega)|(apply zP;omega;intros)|(apply zQ;omega;intros)|apply zR|(apply yA;omega)|(apply yB;omega)|(apply yC;omega)|(apply yD;omega)|(apply yE;omega)|(apply yF;omega)|(apply yG;omega)|(apply yH;omega)|(apply yI;omega)|(apply yJ;omega)|(apply yK;omega)|(apply yL;omega)|fail);cbv))
  exact ⟨hQ _ _ _ _ (by simp [h]) _⟩
theorem shape_cp (k n : Int) (nm : ByteArray) (hs : Bool) (ts : List Ty5) (ls : List ByteArray) (ks : List Ex7) (z : Int) (hz0 : 0 ≤ z) (hz : z.toNat = ls.length) : CP (TT ()) 62 [exD (.mk k n nm hs ts ls ks)] (· = quadD (shI k hs z)) :=
 c4_runW (by simp [quadD,pureD,pureL]) fun Q hQ => shape_run k n nm hs ts ls ks z hz0 hz Q fun h' => hQ _ h' (.refl _)
def bI14 (b : Bool) : Int := if b = true then 1 else 0
def ownP (k n fi ei hi ri ti zn zl zt zk a b c d : Int) : Prop :=
 (1 ≤ k ∧ k ≤ 13) ∧ ((k = 4 ∨ k = 5 ∨ k = 7 ∨ k = 10 ∨ k = 13) -> fi = 1) ∧ ((k = 1 ∨ k = 2 ∨ k = 6 ∨ k = 8 ∨ k = 9 ∨ k = 11 ∨ k = 12) -> ei = 1) ∧ (k = 3 -> zn ≤ 40) ∧
 (k = 1 -> 0 ≤ n) ∧ (k = 2 -> n = 0 ∨ n = 1) ∧ (k = 11 -> 1 ≤ n ∧ n ≤ 7) ∧ ((k ≠ 1 ∧ k ≠ 2 ∧ k ≠ 11) -> n = 0) ∧ (k ≠ 13 -> hi = 0) ∧ (k ≠ 9 -> zl ≤ 0) ∧ ri = 1 ∧ zl ≤ 6 ∧
 a ≤ zt ∧ zt ≤ b ∧ c ≤ zk ∧ zk ≤ d ∧ ti = 1
instance (k n fi ei hi ri ti zn zl zt zk a b c d : Int) : Decidable (ownP k n fi ei hi ri ti zn zl zt zk a b c d) := by unfold ownP;infer_instance
def ownE : Ex7 -> Bool
 | .mk k n nm hs ts ls ks => decide (ownP k n (bI14 (fineB nm)) (bI14 (eqS nm ⟨#[]⟩)) (bI14 hs) (bI14 (risingB ls)) (bI14 (typesB ts)) nm.size ls.length ts.length ks.length
   (shI k hs ls.length).1 (shI k hs ls.length).2.1 (shI k hs ls.length).2.2.1 (shI k hs ls.length).2.2.2)
theorem plright_cp (t : Ty5) (ho : okT t) : CP (TT ()) 70 [tyD t] (· = .raw (.bool (rightT varB risingB t))) :=
 cp_raw (callable_at Try.func70 (by kernel_rfl) rfl) fun S w args r => by
  obtain ⟨v,rfl,h⟩ := rdL_one r
  obtain ⟨v0,v1,v2,v3,v4,rfl,hT⟩ := ty_in t ho h
  exact pright_any t v0 v1 v2 v3 v4 w hT
theorem plhas_cp (kd : Int) (t : Ty5) (ho : okT t) : CP (TT ()) 71 [tyD t,.raw (.int .i64 kd)] (· = .raw (.bool (hasT kd t))) :=
 cp_raw (callable_at Try.func71 (by kernel_rfl) rfl) fun S w args r => by
  obtain ⟨v,v',rfl,h,h'⟩ := rdL_two r
  simp only [Pv.Rd] at h'
  subst h'
  obtain ⟨v0,v1,v2,v3,v4,rfl,hT⟩ := ty_in t ho h
  exact phas_any t kd v0 v1 v2 v3 v4 w hT
theorem pfine14_cp (s : ByteArray) (hs : s.size ≤ maxLen) : CP (TT ()) 56 [.raw (.string s)] (· = .raw (.bool (fineB s))) :=
 cp_raw (callable_at Try.func56 (by kernel_rfl) rfl) fun S w args r => by
  obtain ⟨v,rfl,h⟩ := rdL_one r
  simp only [Pv.Rd] at h
  subst h
  exact fine_any s w hs
theorem prising14_cp (l : List ByteArray) (hs : ∀ u ∈ l,u.size ≤ maxLen) : CP (TT ()) 57 [.sl none 1 (l.map strD)] (· = .raw (.bool (risingB l))) :=
 cp_raw (callable_at Try.func57 (by kernel_rfl) rfl) fun S w args r => by
  obtain ⟨v,rfl,h⟩ := rdL_one r
  exact rising_any v l w (strs_in h hs)
theorem plain_run (l : List Ty5) (hlo : okT.okL l) (hl : l.length ≤ 1000000) (Q : D -> H -> Prop) (hQ : ∀ h',Q (.raw (.bool (typesB l))) h') : wfun TT 55 [.sl none 5 (tysD l)] [] Q := by
 have q2 : typesB l ≠ true -> ∀ h',Q (.raw (.bool false)) h' := fun h => by rw [Bool.eq_false_iff.2 h] at hQ;exact hQ
 have q3 : typesB l = true -> ∀ h',Q (.raw (.bool true)) h' := fun h => by rw [h] at hQ;exact hQ
 have hKl := tys_len l
 have hKi := tys_idb l
 have hKat := fun i => tys_at (ks := l) (i := i)
 clear hQ
 generalize tysD l = KS at hKl hKi hKat ⊢
 cbv
 (repeat'((first|(apply zS;kernel_rfl)|(apply zD;decide +kernel)|(apply zE;decide +kernel)|(apply zF;decide +kernel)|(apply zL;decide +kernel)|(apply zM;decide +kernel)|(apply zN;intros)|(apply zO;intros)|(apply zT;omega)|(apply zU;omega)|(apply zP;omega;intros)|(apply zQ;omega;intros)|apply zR);cbv))
 refine LoopK.put (X := Int) (fun x => [(7,.raw (.int .i64 x))]) (fun _ => []) (fun x => l.length - x.toNat) (fun x => 0 ≤ x ∧ x.toNat ≤ l.length ∧ ∀ (j : Nat) (t : Ty5),j < x.toNat -> l[j]? = some t -> rightT varB risingB t = true ∧ hasT 9 t = false) 0 ⟨by simp,by simp,fun j t hj => absurd hj (Nat.not_lt_zero _)⟩ rfl rfl ?_
 rintro i N ⟨h0,hi,hj⟩ hN
 simp only at h0 hi hj hN ⊢
 cbv
 (repeat'((first|(apply zS;kernel_rfl)|(apply zD;decide +kernel)|(apply zE;decide +kernel)|(apply zF;decide +kernel)|(apply zL;decide +kernel)|(apply zM;decide +kernel)|(apply zN;intros)|(apply zO;intros)|(apply zT;omega)|(apply zU;omega)|(apply zP;omega;intros)|(apply zQ;omega;intros)|apply zR);cbv))
 refine BinK.lss ?_ ?_ <;> intro hlt <;> cbv <;> (repeat'((first|(apply zS;kernel_rfl)|(apply zD;decide +kernel)|(apply zE;decide +kernel)|(apply zF;decide +kernel)|(apply zL;decide +kernel)|(apply zM;decide +kernel)|(apply zN;intros)|(apply zO;intros)|(apply zT;omega)|(apply zU;omega)|(apply zP;omega;intros)|(apply zQ;omega;intros)|apply zR);cbv))
 ·obtain ⟨t,ht,hK⟩ := hKat i.toNat (by omega)
  have hto := okL_get hlo t (List.mem_of_getElem? ht)
  have c1 := plright_cp t hto
  have c2 := plhas_cp 9 t hto
  have hpt := ty_pure t
  have hno : ¬ (rightT varB risingB t = true ∧ hasT 9 t = false) -> ∀ h',Q (.raw (.bool false)) h' := fun e => q2 fun h => e (typesB_at.1 h _ t ht)
  have hnext : rightT varB risingB t = true -> hasT 9 t = false -> ∀ r : Int,r = i + 1 -> ∀ (j : Nat) (t : Ty5),j < r.toNat -> l[j]? = some t -> rightT varB risingB t = true ∧ hasT 9 t = false := fun e1 e2 r hr j x hjr hx => by
   by_cases hji : j = i.toNat
   ·rw [hji,ht] at hx
    cases hx
    exact ⟨e1,e2⟩
   ·exact hj j x (by omega) hx
  generalize rightT varB risingB t = b1 at c1 hno hnext
  generalize hasT 9 t = b2 at c2 hno hnext
  obtain ⟨k0,n0,m0,L0,K0,f0,i0,j0⟩ := c4_node t
  rw [f0] at c1 c2 hpt hK
  clear f0 q2 q3 hj ht
  refine IdxK.intro h0 hK ?_
  cbv
  (repeat'((first|(apply zS;kernel_rfl)|(apply zD;decide +kernel)|(apply zE;decide +kernel)|(apply zF;decide +kernel)|(apply zL;decide +kernel)|(apply zM;decide +kernel)|(apply zN;intros)|(apply zO;intros)|(apply zT;omega)|(apply zU;omega)|(apply zP;omega;intros)|(apply zQ;omega;intros)|apply zR);cbv))
  refine .one c1 (cons_pure hpt rfl) rfl ?_
  rcases b1 with _ | _
  ·cbv
   (repeat'((first|(apply zS;kernel_rfl)|(apply zD;decide +kernel)|(apply zE;decide +kernel)|(apply zF;decide +kernel)|(apply zL;decide +kernel)|(apply zM;decide +kernel)|(apply zN;intros)|(apply zO;intros)|(apply zT;omega)|(apply zU;omega)|(apply zP;omega;intros)|(apply zQ;omega;intros)|apply zR);cbv))
   exact ⟨hno (fun h => by cases h.1) _⟩
  cbv
  (repeat'((first|(apply zS;kernel_rfl)|(apply zD;decide +kernel)|(apply zE;decide +kernel)|(apply zF;decide +kernel)|(apply zL;decide +kernel)|(apply zM;decide +kernel)|(apply zN;intros)|(apply zO;intros)|(apply zT;omega)|(apply zU;omega)|(apply zP;omega;intros)|(apply zQ;omega;intros)|apply zR);cbv))
  refine .one c2 (cons_pure hpt rfl) rfl ?_
  rcases b2 with _ | _
  case' true =>
   cbv
   (repeat'((first|(apply zS;kernel_rfl)|(apply zD;decide +kernel)|(apply zE;decide +kernel)|(apply zF;decide +kernel)|(apply zL;decide +kernel)|(apply zM;decide +kernel)|(apply zN;intros)|(apply zO;intros)|(apply zT;omega)|(apply zU;omega)|(apply zP;omega;intros)|(apply zQ;omega;intros)|apply zR);cbv))
   exact ⟨hno (fun h => by cases h.2) _⟩
  have hnext := hnext rfl rfl
  cbv
  (repeat'((first|(apply zS;kernel_rfl)|(apply zD;decide +kernel)|(apply zE;decide +kernel)|(apply zF;decide +kernel)|(apply zL;decide +kernel)|(apply zM;decide +kernel)|(apply zN;intros)|(apply zO;intros)|(apply zT;omega)|(apply zU;omega)|(apply zP;omega;intros)|(apply zQ;omega;intros)|apply zR);cbv))
  rename_i r hr
  have hnext := hnext r hr
  refine RoundK.forget r ⟨by omega,by omega,hnext⟩ (by omega) rfl rfl ?_ ?_
  ·simp [idbL,idb,hKi,i0,j0]
  ·simp [cellIdb]
 ·have hLt : typesB l = true := typesB_at.2 fun j t ht => hj j t (by have := (List.getElem?_eq_some_iff.1 ht).1;omega) ht
  exact ⟨q3 hLt _⟩
theorem plain_cp (l : List Ty5) (hlo : okT.okL l) (hl : l.length ≤ 1000000) : CP (TT ()) 55 [.sl none 5 (tysD l)] (· = .raw (.bool (typesB l))) := c4_run fun Q hQ => plain_run l hlo hl Q hQ
def blankP (n ei hi zt zl zk : Int) : Prop := n = 0 ∧ ei = 1 ∧ hi = 0 ∧ zt = 0 ∧ zl = 0 ∧ zk = 0
instance (n ei hi zt zl zk : Int) : Decidable (blankP n ei hi zt zl zk) := by unfold blankP;infer_instance
theorem blank_run (k n : Int) (nm : ByteArray) (hs : Bool) (TS LS KS : List D) (ei zt zl zk : Int) (he : (nm = ⟨#[]⟩ -> ei = 1) ∧ (¬ nm = ⟨#[]⟩ -> ei = 0)) (ht : 0 ≤ zt ∧ zt.toNat = TS.length) (hl : 0 ≤ zl ∧ zl.toNat = LS.length) (hk : 0 ≤ zk ∧ zk.toNat = KS.length) (Q : D -> H -> Prop)
  (hQ : ∀ h',Q (.raw (.bool (decide (blankP n ei (bI14 hs) zt zl zk)))) h') : wfun TT 59 [.agg [.raw (.int .i64 k),.raw (.int .i64 n),.raw (.string nm),.raw (.bool hs),.sl none 5 TS,.sl none 1 LS,.sl none 7 KS]] [] Q := by
 have hQy : blankP n ei (bI14 hs) zt zl zk -> ∀ h',Q (.raw (.bool true)) h' := fun h => by rw [decide_eq_true h] at hQ;exact hQ
 have hQn : ¬ blankP n ei (bI14 hs) zt zl zk -> ∀ h',Q (.raw (.bool false)) h' := fun h => by rw [decide_eq_false h] at hQ;exact hQ
 clear hQ
 unfold blankP at hQy hQn
 have hno : ∀ {A : Prop},¬ A -> A -> False := fun h g => h g
 cases hs
 case true =>
  simp [bI14] at hQn
  cbv
  (repeat'((first|(apply zS;kernel_rfl)|(apply zD;decide +kernel)|(apply zE;decide +kernel)|(apply zF;decide +kernel)|(apply zL;decide +kernel)|(apply zM;decide +kernel)|(apply zN;intros)|(apply zO;intros)|(apply zT;omega)|(apply zU;omega)|(apply zP;omega;intros)|(apply zQ;omega;intros)|apply zR|(apply yA;omega)|(apply yB;omega)|(apply yC;omega)|(apply yD;omega)|(apply yE;omega)|(apply yF;omega)|(apply yG;omega)|(apply yH;omega)|(apply yI;omega)|(apply yJ;omega)|(apply yK;omega)|(apply yL;omega)|fail);cbv))
  refine BinK.eql ?_ ?_ <;> intro h1 <;> cbv
  case refine_2 =>
   (repeat'((first|(apply zS;kernel_rfl)|(apply zD;decide +kernel)|(apply zE;decide +kernel)|(apply zF;decide +kernel)|(apply zL;decide +kernel)|(apply zM;decide +kernel)|(apply zN;intros)|(apply zO;intros)|(apply zT;omega)|(apply zU;omega)|(apply zP;omega;intros)|(apply zQ;omega;intros)|apply zR|(apply yA;omega)|(apply yB;omega)|(apply yC;omega)|(apply yD;omega)|(apply yE;omega)|(apply yF;omega)|(apply yG;omega)|(apply yH;omega)|(apply yI;omega)|(apply yJ;omega)|(apply yK;omega)|(apply yL;omega)|fail);cbv))
   exact ⟨hQn _⟩
  (repeat'((first|(apply zS;kernel_rfl)|(apply zD;decide +kernel)|(apply zE;decide +kernel)|(apply zF;decide +kernel)|(apply zL;decide +kernel)|(apply zM;decide +kernel)|(apply zN;intros)|(apply zO;intros)|(apply zT;omega)|(apply zU;omega)|(apply zP;omega;intros)|(apply zQ;omega;intros)|apply zR|(apply yA;omega)|(apply yB;omega)|(apply yC;omega)|(apply yD;omega)|(apply yE;omega)|(apply yF;omega)|(apply yG;omega)|(apply yH;omega)|(apply yI;omega)|(apply yJ;omega)|(apply yK;omega)|(apply yL;omega)|fail);cbv))
  refine BinK.seql ?_ ?_ <;> intro hem <;> cbv
  case refine_2 =>
   (repeat'((first|(apply zS;kernel_rfl)|(apply zD;decide +kernel)|(apply zE;decide +kernel)|(apply zF;decide +kernel)|(apply zL;decide +kernel)|(apply zM;decide +kernel)|(apply zN;intros)|(apply zO;intros)|(apply zT;omega)|(apply zU;omega)|(apply zP;omega;intros)|(apply zQ;omega;intros)|apply zR|(apply yA;omega)|(apply yB;omega)|(apply yC;omega)|(apply yD;omega)|(apply yE;omega)|(apply yF;omega)|(apply yG;omega)|(apply yH;omega)|(apply yI;omega)|(apply yJ;omega)|(apply yK;omega)|(apply yL;omega)|fail);cbv))
   exact ⟨hQn _⟩
  (repeat'((first|(apply zS;kernel_rfl)|(apply zD;decide +kernel)|(apply zE;decide +kernel)|(apply zF;decide +kernel)|(apply zL;decide +kernel)|(apply zM;decide +kernel)|(apply zN;intros)|(apply zO;intros)|(apply zT;omega)|(apply zU;omega)|(apply zP;omega;intros)|(apply zQ;omega;intros)|apply zR|(apply yA;omega)|(apply yB;omega)|(apply yC;omega)|(apply yD;omega)|(apply yE;omega)|(apply yF;omega)|(apply yG;omega)|(apply yH;omega)|(apply yI;omega)|(apply yJ;omega)|(apply yK;omega)|(apply yL;omega)|fail);cbv))
  exact ⟨hQn _⟩
 simp [bI14] at hQy hQn
 cbv
 (repeat'((first|(apply zS;kernel_rfl)|(apply zD;decide +kernel)|(apply zE;decide +kernel)|(apply zF;decide +kernel)|(apply zL;decide +kernel)|(apply zM;decide +kernel)|(apply zN;intros)|(apply zO;intros)|(apply zT;omega)|(apply zU;omega)|(apply zP;omega;intros)|(apply zQ;omega;intros)|apply zR|(apply yA;omega)|(apply yB;omega)|(apply yC;omega)|(apply yD;omega)|(apply yE;omega)|(apply yF;omega)|(apply yG;omega)|(apply yH;omega)|(apply yI;omega)|(apply yJ;omega)|(apply yK;omega)|(apply yL;omega)|fail);cbv))
 refine BinK.eql ?_ ?_ <;> intro h1 <;> cbv
 case refine_2 =>
  (repeat'((first|(apply zS;kernel_rfl)|(apply zD;decide +kernel)|(apply zE;decide +kernel)|(apply zF;decide +kernel)|(apply zL;decide +kernel)|(apply zM;decide +kernel)|(apply zN;intros)|(apply zO;intros)|(apply zT;omega)|(apply zU;omega)|(apply zP;omega;intros)|(apply zQ;omega;intros)|apply zR|(apply yA;omega)|(apply yB;omega)|(apply yC;omega)|(apply yD;omega)|(apply yE;omega)|(apply yF;omega)|(apply yG;omega)|(apply yH;omega)|(apply yI;omega)|(apply yJ;omega)|(apply yK;omega)|(apply yL;omega)|fail);cbv))
  exact ⟨hQn (fun h => absurd h h1) _⟩
 (repeat'((first|(apply zS;kernel_rfl)|(apply zD;decide +kernel)|(apply zE;decide +kernel)|(apply zF;decide +kernel)|(apply zL;decide +kernel)|(apply zM;decide +kernel)|(apply zN;intros)|(apply zO;intros)|(apply zT;omega)|(apply zU;omega)|(apply zP;omega;intros)|(apply zQ;omega;intros)|apply zR|(apply yA;omega)|(apply yB;omega)|(apply yC;omega)|(apply yD;omega)|(apply yE;omega)|(apply yF;omega)|(apply yG;omega)|(apply yH;omega)|(apply yI;omega)|(apply yJ;omega)|(apply yK;omega)|(apply yL;omega)|fail);cbv))
 refine BinK.seql ?_ ?_ <;> intro hem <;> cbv
 case refine_2 =>
  have hei := he.2 hem
  (repeat'((first|(apply zS;kernel_rfl)|(apply zD;decide +kernel)|(apply zE;decide +kernel)|(apply zF;decide +kernel)|(apply zL;decide +kernel)|(apply zM;decide +kernel)|(apply zN;intros)|(apply zO;intros)|(apply zT;omega)|(apply zU;omega)|(apply zP;omega;intros)|(apply zQ;omega;intros)|apply zR|(apply yA;omega)|(apply yB;omega)|(apply yC;omega)|(apply yD;omega)|(apply yE;omega)|(apply yF;omega)|(apply yG;omega)|(apply yH;omega)|(apply yI;omega)|(apply yJ;omega)|(apply yK;omega)|(apply yL;omega)|fail);cbv))
  exact ⟨hQn (fun _ => by omega) _⟩
 have hei := he.1 hem
 (repeat'((first|(apply zS;kernel_rfl)|(apply zD;decide +kernel)|(apply zE;decide +kernel)|(apply zF;decide +kernel)|(apply zL;decide +kernel)|(apply zM;decide +kernel)|(apply zN;intros)|(apply zO;intros)|(apply zT;omega)|(apply zU;omega)|(apply zP;omega;intros)|(apply zQ;omega;intros)|apply zR|(apply yA;omega)|(apply yB;omega)|(apply yC;omega)|(apply yD;omega)|(apply yE;omega)|(apply yF;omega)|(apply yG;omega)|(apply yH;omega)|(apply yI;omega)|(apply yJ;omega)|(apply yK;omega)|(apply yL;omega)|fail);cbv))
 refine BinK.eql ?_ ?_ <;> intro h2 <;> cbv
 case refine_2 =>
  (repeat'((first|(apply zS;kernel_rfl)|(apply zD;decide +kernel)|(apply zE;decide +kernel)|(apply zF;decide +kernel)|(apply zL;decide +kernel)|(apply zM;decide +kernel)|(apply zN;intros)|(apply zO;intros)|(apply zT;omega)|(apply zU;omega)|(apply zP;omega;intros)|(apply zQ;omega;intros)|apply zR|(apply yA;omega)|(apply yB;omega)|(apply yC;omega)|(apply yD;omega)|(apply yE;omega)|(apply yF;omega)|(apply yG;omega)|(apply yH;omega)|(apply yI;omega)|(apply yJ;omega)|(apply yK;omega)|(apply yL;omega)|fail);cbv))
  exact ⟨hQn (fun _ _ => by omega) _⟩
 (repeat'((first|(apply zS;kernel_rfl)|(apply zD;decide +kernel)|(apply zE;decide +kernel)|(apply zF;decide +kernel)|(apply zL;decide +kernel)|(apply zM;decide +kernel)|(apply zN;intros)|(apply zO;intros)|(apply zT;omega)|(apply zU;omega)|(apply zP;omega;intros)|(apply zQ;omega;intros)|apply zR|(apply yA;omega)|(apply yB;omega)|(apply yC;omega)|(apply yD;omega)|(apply yE;omega)|(apply yF;omega)|(apply yG;omega)|(apply yH;omega)|(apply yI;omega)|(apply yJ;omega)|(apply yK;omega)|(apply yL;omega)|fail);cbv))
 refine BinK.eql ?_ ?_ <;> intro h3 <;> cbv
 case refine_2 =>
  (repeat'((first|(apply zS;kernel_rfl)|(apply zD;decide +kernel)|(apply zE;decide +kernel)|(apply zF;decide +kernel)|(apply zL;decide +kernel)|(apply zM;decide +kernel)|(apply zN;intros)|(apply zO;intros)|(apply zT;omega)|(apply zU;omega)|(apply zP;omega;intros)|(apply zQ;omega;intros)|apply zR|(apply yA;omega)|(apply yB;omega)|(apply yC;omega)|(apply yD;omega)|(apply yE;omega)|(apply yF;omega)|(apply yG;omega)|(apply yH;omega)|(apply yI;omega)|(apply yJ;omega)|(apply yK;omega)|(apply yL;omega)|fail);cbv))
  exact ⟨hQn (fun _ _ _ => by omega) _⟩
 (repeat'((first|(apply zS;kernel_rfl)|(apply zD;decide +kernel)|(apply zE;decide +kernel)|(apply zF;decide +kernel)|(apply zL;decide +kernel)|(apply zM;decide +kernel)|(apply zN;intros)|(apply zO;intros)|(apply zT;omega)|(apply zU;omega)|(apply zP;omega;intros)|(apply zQ;omega;intros)|apply zR|(apply yA;omega)|(apply yB;omega)|(apply yC;omega)|(apply yD;omega)|(apply yE;omega)|(apply yF;omega)|(apply yG;omega)|(apply yH;omega)|(apply yI;omega)|(apply yJ;omega)|(apply yK;omega)|(apply yL;omega)|fail);cbv))
 refine BinK.eql ?_ ?_ <;> intro h4 <;> cbv
 case refine_2 =>
  (repeat'((first|(apply zS;kernel_rfl)|(apply zD;decide +kernel)|(apply zE;decide +kernel)|(apply zF;decide +kernel)|(apply zL;decide +kernel)|(apply zM;decide +kernel)|(apply zN;intros)|(apply zO;intros)|(apply zT;omega)|(apply zU;omega)|(apply zP;omega;intros)|(apply zQ;omega;intros)|apply zR|(apply yA;omega)|(apply yB;omega)|(apply yC;omega)|(apply yD;omega)|(apply yE;omega)|(apply yF;omega)|(apply yG;omega)|(apply yH;omega)|(apply yI;omega)|(apply yJ;omega)|(apply yK;omega)|(apply yL;omega)|fail);cbv))
  exact ⟨hQn (fun _ _ _ _ => by omega) _⟩
 (repeat'((first|(apply zS;kernel_rfl)|(apply zD;decide +kernel)|(apply zE;decide +kernel)|(apply zF;decide +kernel)|(apply zL;decide +kernel)|(apply zM;decide +kernel)|(apply zN;intros)|(apply zO;intros)|(apply zT;omega)|(apply zU;omega)|(apply zP;omega;intros)|(apply zQ;omega;intros)|apply zR|(apply yA;omega)|(apply yB;omega)|(apply yC;omega)|(apply yD;omega)|(apply yE;omega)|(apply yF;omega)|(apply yG;omega)|(apply yH;omega)|(apply yI;omega)|(apply yJ;omega)|(apply yK;omega)|(apply yL;omega)|fail);cbv))
 exact ⟨hQy h1 hei (by omega) (by omega) (by omega) _⟩
theorem CP.argO {k : FuncId} {ds es : List D} {Q : D -> Prop} (c : CP (TT ()) k es Q) (hw : WkL ds es) : CP (TT ()) k ds Q :=
 ⟨c.1,fun S w args hS r => c.2 S w args hS (hw _ _ _ r)⟩
theorem none_wk (sz : Nat) : Wk (.raw (.slice none 0 0)) (.sl none sz []) := fun C w v h => by
 simp only [Pv.Rd] at h
 subst h
 exact ⟨⟨none,0,rfl,Nat.le_refl _,Nat.zero_le _⟩,fun h => absurd h (Nat.lt_irrefl 0),fun id e => by cases e⟩
theorem blank_any (k n : Int) (nm : ByteArray) (hs : Bool) (T L K : D) (TS LS KS : List D) (hT : Wk T (.sl none 5 TS)) (hL : Wk L (.sl none 1 LS)) (hK : Wk K (.sl none 7 KS)) (ei zt zl zk : Int) (he : (nm = ⟨#[]⟩ -> ei = 1) ∧ (¬ nm = ⟨#[]⟩ -> ei = 0)) (ht : 0 ≤ zt ∧ zt.toNat = TS.length) (hl : 0 ≤ zl ∧ zl.toNat = LS.length) (hk : 0 ≤ zk ∧ zk.toNat = KS.length) :
  CP (TT ()) 59 [.agg [.raw (.int .i64 k),.raw (.int .i64 n),.raw (.string nm),.raw (.bool hs),T,L,K]] (· = .raw (.bool (decide (blankP n ei (bI14 hs) zt zl zk)))) :=
 CP.argO (c4_run fun Q hQ => blank_run k n nm hs TS LS KS ei zt zl zk he ht hl hk Q hQ : CP (TT ()) 59 [.agg [.raw (.int .i64 k),.raw (.int .i64 n),.raw (.string nm),.raw (.bool hs),.sl none 5 TS,.sl none 1 LS,.sl none 7 KS]] _)
  (.cons (.agg (.cons (.refl _) (.cons (.refl _) (.cons (.refl _) (.cons (.refl _) (.cons hT (.cons hL (.cons hK .nil)))))))) .nil)
theorem inst_cp (k n : Int) (nm : ByteArray) (hs : Bool) (TS LS KS : List D) (zt : Int) (ht : 0 ≤ zt ∧ zt.toNat = TS.length) :
  CP (TT ()) 58 [.agg [.raw (.int .i64 k),.raw (.int .i64 n),.raw (.string nm),.raw (.bool hs),.sl none 5 TS,.sl none 1 LS,.sl none 7 KS]] (· = .raw (.bool (decide ((bI14 hs = 1 ↔ 0 < zt) ∧ zt ≤ 3)))) := by
 refine c4_run fun Q hQ => ?_
 have hQy : ((bI14 hs = 1 ↔ 0 < zt) ∧ zt ≤ 3) -> ∀ h',Q (.raw (.bool true)) h' := fun h => by rw [decide_eq_true h] at hQ;exact hQ
 have hQn : ¬ ((bI14 hs = 1 ↔ 0 < zt) ∧ zt ≤ 3) -> ∀ h',Q (.raw (.bool false)) h' := fun h => by rw [decide_eq_false h] at hQ;exact hQ
 clear hQ
 rcases (show zt = 0 ∨ (0 < zt ∧ zt ≤ 3) ∨ 3 < zt by omega) with h | h | h
 all_goals
  cases hs
  all_goals
   simp [bI14] at hQy hQn
   cbv
   (repeat'((first|(apply zS;kernel_rfl)|(apply zD;decide +kernel)|(apply zE;decide +kernel)|(apply zF;decide +kernel)|(apply zL;decide +kernel)|(apply zM;decide +kernel)|(apply zN;intros)|(apply zO;intros)|(apply zT;omega)|(apply zU;omega)|(apply zP;omega;intros)|(apply zQ;omega;intros)|apply zR|(apply yA;omega)|(apply yB;omega)|(apply yC;omega)|(apply yD;omega)|(apply yE;omega)|(apply yF;omega)|(apply yG;omega)|(apply yH;omega)|(apply yI;omega)|(apply yJ;omega)|(apply yK;omega)|(apply yL;omega)|fail);cbv))
   refine ⟨.bool _,rfl,?_⟩
   cbv
   (repeat'((first|(apply zS;kernel_rfl)|(apply zD;decide +kernel)|(apply zE;decide +kernel)|(apply zF;decide +kernel)|(apply zL;decide +kernel)|(apply zM;decide +kernel)|(apply zN;intros)|(apply zO;intros)|(apply zT;omega)|(apply zU;omega)|(apply zP;omega;intros)|(apply zQ;omega;intros)|apply zR|(apply yA;omega)|(apply yB;omega)|(apply yC;omega)|(apply yD;omega)|(apply yE;omega)|(apply yF;omega)|(apply yG;omega)|(apply yH;omega)|(apply yI;omega)|(apply yJ;omega)|(apply yK;omega)|(apply yL;omega)|fail);cbv))
   first | exact ⟨hQy (by omega) _⟩ | exact ⟨hQn (by omega) _⟩ | exact ⟨hQy (by omega) (by omega) _⟩ | exact ⟨hQn (fun _ => by omega) _⟩
end Go.Proofs.Ytglefhgcfijiaaa

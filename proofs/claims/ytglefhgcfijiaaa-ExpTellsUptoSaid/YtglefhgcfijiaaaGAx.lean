/- Parts of the proof: EpR, ExC, ExN, ExH. -/
import Derived.RangeFuncNested
import Derived.RangeFuncBound
import Derived.RangeFuncCalls
import Derived.RangeFuncLeaves
import Derived.Shelf.Abstract
import Derived.Shelf.RegionOpen
import Derived.OwnWalkIn
import Derived.TacticsInMore
import Derived.LoopNIn
import Derived.LoopIn
import Derived.Test.YtglefhgcfijiaaaGAt
import Derived.Test.YtglefhgcfijiaaaGAu
import Derived.Test.YtglefhgcfijiaaaGAv
import Derived.Test.YtglefhgcfijiaaaGAw
import Derived.Test.YtglefhgcfijiaaaGAs
import Derived.Test.YtglefhgcfijiaaaGAl
set_option linter.unusedSimpArgs false
set_option linter.unusedVariables false
set_option maxRecDepth 1000000
set_option maxHeartbeats 40000000
namespace Go.Proofs.Ytglefhgcfijiaaa
open Go.RowKit Pv
theorem own_off (k n : Int) (nm : ByteArray) (hs : Bool) (ts : List Ty5) (ls : List ByteArray) (ks : List Ex7) (hk : ¬ (1 ≤ k ∧ k ≤ 13)) (Q : D -> H -> Prop) (hQ : ∀ h',Q (.raw (.bool (ownE (.mk k n nm hs ts ls ks)))) h') : wfun TT 34 [exD (.mk k n nm hs ts ls ks)] [] Q := by
 have hQ : ∀ h',Q (.raw (.bool false)) h' := by
  rw [show ownE (.mk k n nm hs ts ls ks) = false from decide_eq_false fun h => hk h.1] at hQ
  exact hQ
 simp only [exD]
 generalize ls.map strD = LS
 generalize tysD ts = TS
 generalize exsD ks = KS
 rcases (show k < 1 ∨ 13 < k by omega) with h | h
 all_goals
  cbv
  (repeat'((first|(apply zS;kernel_rfl)|(apply zD;decide +kernel)|(apply zE;decide +kernel)|(apply zF;decide +kernel)|(apply zL;decide +kernel)|(apply zM;decide +kernel)|(apply zN;intros)|(apply zO;intros)|(apply zT;omega)|(apply zU;omega)|(apply zP;omega;intros)|(apply zQ;omega;intros)|apply zR|(apply yA;omega)|(apply yB;omega)|(apply yC;omega)|(apply yD;omega)|(apply yE;omega)|(apply yF;omega)|(apply yG;omega)|(apply yH;omega)|(apply yI;omega)|(apply yJ;omega)|(apply yK;omega)|(apply yL;omega)|fail);cbv))
  exact ⟨hQ _⟩
theorem own_cp (e : Ex7) (ho : okE e) (hn : nodesE e ≤ 1000000) : CP (TT ()) 34 [exD e] (· = .raw (.bool (ownE e))) := by
 obtain ⟨k,n,nm,hs,ts,ls,ks⟩ := e
 have := nodesL_len ts
 simp only [nodesE] at hn
 have ht : ts.length ≤ 1000000 := by omega
 refine c4_run fun Q hQ => ?_
 rcases (show k = 1 ∨ k = 2 ∨ k = 3 ∨ k = 4 ∨ k = 5 ∨ k = 6 ∨ k = 7 ∨ k = 8 ∨ k = 9 ∨ k = 10 ∨ k = 11 ∨ k = 12 ∨ k = 13 ∨ ¬ (1 ≤ k ∧ k ≤ 13) by omega) with h | h | h | h | h | h | h | h | h | h | h | h | h | h
 ·exact own_run1 k n h nm hs ts ls ks ho ht Q hQ
 ·exact own_run2 k n h nm hs ts ls ks ho ht Q hQ
 ·exact own_run3 k n h nm hs ts ls ks ho ht Q hQ
 ·exact own_run4 k n h nm hs ts ls ks ho ht Q hQ
 ·exact own_run5 k n h nm hs ts ls ks ho ht Q hQ
 ·exact own_run6 k n h nm hs ts ls ks ho ht Q hQ
 ·exact own_run7 k n h nm hs ts ls ks ho ht Q hQ
 ·exact own_run8 k n h nm hs ts ls ks ho ht Q hQ
 ·exact own_run9 k n h nm hs ts ls ks ho ht Q hQ
 ·exact own_run10 k n h nm hs ts ls ks ho ht Q hQ
 ·exact own_run11 k n h nm hs ts ls ks ho ht Q hQ
 ·exact own_run12 k n h nm hs ts ls ks ho ht Q hQ
 ·exact own_run13 k n h nm hs ts ls ks ho ht Q hQ
 ·exact own_off k n nm hs ts ls ks h Q hQ
mutual
def rightE : Ex7 -> Bool
 | .mk k n nm hs ts ls ks => ownE (.mk k n nm hs ts ls ks) && rightEL ks
def rightEL : List Ex7 -> Bool
 | [] => true
 | e :: r => rightE e && rightEL r
end
theorem rightEL_at : ∀ {ks : List Ex7},rightEL ks = true ↔ ∀ (j : Nat) (t : Ex7),ks[j]? = some t -> rightE t = true
 | [] => ⟨fun _ j t h => by simp at h,fun _ => rfl⟩
 | e :: r => by
  simp only [rightEL,Bool.and_eq_true]
  rw [rightEL_at (ks := r)]
  constructor
  ·rintro ⟨h1,h2⟩ j t ht
   cases j with
   | zero => simp at ht;subst ht;exact h1
   | succ j => exact h2 j t (by simpa using ht)
  ·intro h
   exact ⟨h 0 e rfl,fun j t ht => h (j + 1) t (by simpa using ht)⟩
theorem rrightE_run (k n : Int) (nm : ByteArray) (hs : Bool) (ts : List Ty5) (ls : List ByteArray) (ks : List Ex7) (hks : ks.length ≤ 1000000)
  (cO : CP (TT ()) 34 [exD (.mk k n nm hs ts ls ks)] (· = .raw (.bool (ownE (.mk k n nm hs ts ls ks)))))
  (hc : ∀ t ∈ ks,CP (TT ()) 11 [exD t] (· = .raw (.bool (rightE t)))) (Q : D -> H -> Prop) (hQ : ∀ h',Q (.raw (.bool (rightE (.mk k n nm hs ts ls ks)))) h') : wfun TT 11 [exD (.mk k n nm hs ts ls ks)] [] Q := by
 have q2 : ¬ (ownE (.mk k n nm hs ts ls ks) = true ∧ rightEL ks = true) -> ∀ h',Q (.raw (.bool false)) h' := fun h => by
  rw [show rightE (.mk k n nm hs ts ls ks) = false from Bool.eq_false_iff.2 fun e => h (by simpa only [rightE,Bool.and_eq_true] using e)] at hQ
  exact hQ
 have q3 : ownE (.mk k n nm hs ts ls ks) = true -> rightEL ks = true -> ∀ h',Q (.raw (.bool true)) h' := fun h1 h2 => by
  rw [show rightE (.mk k n nm hs ts ls ks) = true by simp only [rightE,Bool.and_eq_true];exact ⟨h1,h2⟩] at hQ
  exact hQ
 have hpe := ex_pure (.mk k n nm hs ts ls ks)
 have hKl := exs_len ks
 have hKi := exs_idb ks
 have hKat := fun i => exs_at (ks := ks) (i := i)
 have hLi := strs_idb ls
 have hTi := tys_idb ts
 clear hQ
 generalize ownE (.mk k n nm hs ts ls ks) = b0 at cO q2 q3
 simp only [exD] at cO hpe ⊢
 generalize ls.map strD = LS at cO hpe hLi ⊢
 generalize tysD ts = TS at cO hpe hTi ⊢
 generalize exsD ks = KS at cO hpe hKl hKi hKat ⊢
 cbv
 (repeat'((first|(apply zS;kernel_rfl)|(apply zD;decide +kernel)|(apply zE;decide +kernel)|(apply zF;decide +kernel)|(apply zL;decide +kernel)|(apply zM;decide +kernel)|(apply zN;intros)|(apply zO;intros)|(apply zT;omega)|(apply zU;omega)|(apply zP;omega;intros)|(apply zQ;omega;intros)|apply zR);cbv))
 refine .one cO (cons_pure hpe rfl) rfl ?_
 rcases b0 with _ | _
 ·cbv
  (repeat'((first|(apply zS;kernel_rfl)|(apply zD;decide +kernel)|(apply zE;decide +kernel)|(apply zF;decide +kernel)|(apply zL;decide +kernel)|(apply zM;decide +kernel)|(apply zN;intros)|(apply zO;intros)|(apply zT;omega)|(apply zU;omega)|(apply zP;omega;intros)|(apply zQ;omega;intros)|apply zR);cbv))
  exact ⟨q2 (fun h => by cases h.1) _⟩
 have q3 := q3 rfl
 replace q2 : rightEL ks ≠ true -> ∀ h',Q (.raw (.bool false)) h' := fun h => q2 fun g => h g.2
 cbv
 (repeat'((first|(apply zS;kernel_rfl)|(apply zD;decide +kernel)|(apply zE;decide +kernel)|(apply zF;decide +kernel)|(apply zL;decide +kernel)|(apply zM;decide +kernel)|(apply zN;intros)|(apply zO;intros)|(apply zT;omega)|(apply zU;omega)|(apply zP;omega;intros)|(apply zQ;omega;intros)|apply zR);cbv))
 refine LoopK.put (X := Int) (fun x => [(3,.raw (.int .i64 x))]) (fun _ => []) (fun x => ks.length - x.toNat) (fun x => 0 ≤ x ∧ x.toNat ≤ ks.length ∧ ∀ (j : Nat) (t : Ex7),j < x.toNat -> ks[j]? = some t -> rightE t = true) 0 ⟨by simp,by simp,fun j t hj => absurd hj (Nat.not_lt_zero _)⟩ rfl rfl ?_
 rintro i N ⟨h0,hi,hj⟩ hN
 simp only at h0 hi hj hN ⊢
 cbv
 (repeat'((first|(apply zS;kernel_rfl)|(apply zD;decide +kernel)|(apply zE;decide +kernel)|(apply zF;decide +kernel)|(apply zL;decide +kernel)|(apply zM;decide +kernel)|(apply zN;intros)|(apply zO;intros)|(apply zT;omega)|(apply zU;omega)|(apply zP;omega;intros)|(apply zQ;omega;intros)|apply zR);cbv))
 refine BinK.lss ?_ ?_ <;> intro hlt <;> cbv <;> (repeat'((first|(apply zS;kernel_rfl)|(apply zD;decide +kernel)|(apply zE;decide +kernel)|(apply zF;decide +kernel)|(apply zL;decide +kernel)|(apply zM;decide +kernel)|(apply zN;intros)|(apply zO;intros)|(apply zT;omega)|(apply zU;omega)|(apply zP;omega;intros)|(apply zQ;omega;intros)|apply zR);cbv))
 ·obtain ⟨t,ht,hK⟩ := hKat i.toNat (by omega)
  have hct := hc t (List.mem_of_getElem? ht)
  have hpt := ex_pure t
  have hno : rightE t = false -> ∀ h',Q (.raw (.bool false)) h' := fun e => q2 fun h => by
   have := rightEL_at.1 h _ t ht
   rw [e] at this
   cases this
  have hnext : rightE t = true -> ∀ r : Int,r = i + 1 -> ∀ (j : Nat) (t : Ex7),j < r.toNat -> ks[j]? = some t -> rightE t = true := fun e r hr j x hjr hx => by
   by_cases hji : j = i.toNat
   ·rw [hji,ht] at hx
    cases hx
    exact e
   ·exact hj j x (by omega) hx
  generalize rightE t = bb at hct hno hnext
  obtain ⟨k0,n0,m0,b0,T0,L0,K0,f0,_,_,_⟩ := ex_node t
  rw [f0] at hct hpt hK
  clear f0 hc q2 q3 hj ht
  refine IdxK.intro h0 hK ?_
  cbv
  (repeat'((first|(apply zS;kernel_rfl)|(apply zD;decide +kernel)|(apply zE;decide +kernel)|(apply zF;decide +kernel)|(apply zL;decide +kernel)|(apply zM;decide +kernel)|(apply zN;intros)|(apply zO;intros)|(apply zT;omega)|(apply zU;omega)|(apply zP;omega;intros)|(apply zQ;omega;intros)|apply zR);cbv))
  refine .one hct (cons_pure hpt rfl) rfl ?_
  rcases bb with _ | _
  ·cbv
   (repeat'((first|(apply zS;kernel_rfl)|(apply zD;decide +kernel)|(apply zE;decide +kernel)|(apply zF;decide +kernel)|(apply zL;decide +kernel)|(apply zM;decide +kernel)|(apply zN;intros)|(apply zO;intros)|(apply zT;omega)|(apply zU;omega)|(apply zP;omega;intros)|(apply zQ;omega;intros)|apply zR);cbv))
   exact ⟨hno rfl _⟩
  have hnext := hnext rfl
  cbv
  (repeat'((first|(apply zS;kernel_rfl)|(apply zD;decide +kernel)|(apply zE;decide +kernel)|(apply zF;decide +kernel)|(apply zL;decide +kernel)|(apply zM;decide +kernel)|(apply zN;intros)|(apply zO;intros)|(apply zT;omega)|(apply zU;omega)|(apply zP;omega;intros)|(apply zQ;omega;intros)|apply zR);cbv))
  rename_i r hr
  have hnext := hnext r hr
  exact RoundK.next r ⟨by omega,by omega,hnext⟩ (by omega) rfl rfl
 ·have hLt : rightEL ks = true := rightEL_at.2 fun j t ht => hj j t (by have := (List.getElem?_eq_some_iff.1 ht).1;omega) ht
  exact ⟨q3 hLt _⟩
theorem rrightE_cp : ∀ e : Ex7,okE e -> nodesE e ≤ 1000000 -> CP (TT ()) 11 [exD e] (· = .raw (.bool (rightE e))) := by
 refine ex_ind fun k n nm hs ts ls ks ih ho hn => ?_
 have hl := nodesEL_len ks
 have cO := own_cp _ ho hn
 simp only [nodesE] at hn
 refine c4_run fun Q hQ => rrightE_run k n nm hs ts ls ks (by omega) cO (fun t ht => ih t ht (okEL_get ho.2.2.2 t ht) ?_) Q hQ
 have := nodesEL_mem ht
 omega
open Go.RowKit Go.Shelf Pv
attribute [local go_sem] Oper.semAt_some
variable {G : Nat -> Nat -> Prop}
mutual
theorem walkE_len (d : Int) : ∀ t : Ex7,(walkE d t).length = countE t
 | .mk k n nm hs ts ls ks => by
  simp only [walkE,countE,List.length_cons]
  rw [walkEL_len (wrap64 (d + 1)) ks]
  omega
theorem walkEL_len (d : Int) : ∀ ks : List Ex7,(walkEL d ks).length = countEL ks
 | [] => rfl
 | t :: r => by
  simp only [walkEL,countEL,List.length_append]
  rw [walkE_len d t,walkEL_len d r]
end
theorem lenE_keys {w0 : World} {xs : List (Ne G w0)} {t : Ex7} {d : Int} (h : xs.map Ne.key = walkE d t) : xs.length = countE t := by
 have := congrArg List.length h
 rw [List.length_map,walkE_len] at this
 exact this
theorem pcount_any (t : Ex7) (v0 v1 v2 v3 v4 v5 v6 : Value) (w : World) (hT : ExIn G w t v0 v1 v2 v3 v4 v5 v6) (hn : countE t ≤ 1000000) :
  Calls Try.prog 16 #[.agg #[v0,v1,v2,v3,v4,v5,v6]] w fun e w' => e = .returned (.int .i64 (countE t)) ∧ Below w.heap.size w w' := by
 refine (callsIn_wide (n := 6)).1 ?_
 have hf1 : Fence.wide.fn 32 := trivial
 have HT := Asd.mk hT
 have HN := Asd.mk hn
 clear hn
 clear hT
 refine callsIn_of_wp_marks Try.func16 rfl trivial ?_ rfl
 simp only [Try.ntmps16,List.size_toArray,List.length_cons,List.length_nil,Nat.reduceAdd,Nat.reduceSub,Array.replicate_succ,Array.replicate_zero,List.push_toArray,List.append_toArray,List.nil_append,List.cons_append]
 gi_wp2_with (gi_at_call 32;refine (callsIn_wide.2 (exprs_any v0 v1 v2 v3 v4 v5 v6 _)).mono ?_;rintro e w' ⟨rfl,rfl⟩)
 have b1 := boxed_exprW (Boxed.new (w.alloc (.cells #[v0,v1,v2,v3,v4,v5,v6] 26)) 3 (.int .i64 0)) v0 v1 v2 v3 v4 v5 v6
 have bA := exprW_root ((w.alloc (.cells #[v0,v1,v2,v3,v4,v5,v6] 26)).alloc (.cells #[.int .i64 0] 3)) v0 v1 v2 v3 v4 v5 v6
 have bP := exprW_parts ((w.alloc (.cells #[v0,v1,v2,v3,v4,v5,v6] 26)).alloc (.cells #[.int .i64 0] 3)) v0 v1 v2 v3 v4 v5 v6
 have hB0 : Below w.heap.size w (exprW ((w.alloc (.cells #[v0,v1,v2,v3,v4,v5,v6] 26)).alloc (.cells #[.int .i64 0] 3)) v0 v1 v2 v3 v4 v5 v6) := below_exprW (((Below.refl _ w).alloc (by first | omega | (simp only [World.size_alloc] <;> omega)) _).alloc (by first | omega | (simp only [World.size_alloc] <;> omega)) _) (by simp only [World.size_alloc] <;> omega) v0 v1 v2 v3 v4 v5 v6
 have hsz : (exprW ((w.alloc (.cells #[v0,v1,v2,v3,v4,v5,v6] 26)).alloc (.cells #[.int .i64 0] 3)) v0 v1 v2 v3 v4 v5 v6).heap.size = w.heap.size + 5 := by rw [exprW_size];simp only [World.size_alloc] <;> omega
 simp only [World.size_alloc] at b1 bA bP
 obtain ⟨W0,hW0⟩ : ∃ W0,exprW ((w.alloc (.cells #[v0,v1,v2,v3,v4,v5,v6] 26)).alloc (.cells #[.int .i64 0] 3)) v0 v1 v2 v3 v4 v5 v6 = W0 := ⟨_,rfl⟩
 rw [hW0] at b1 bA bP hB0 hsz ⊢
 clear hW0
 refine wpIn_rangeFunc_ownH rfl (by omega) (gf := 68) (lb := #[.pointer (some ⟨w.heap.size + 1 + 1 + 1,0,none⟩),.pointer (some ⟨w.heap.size + 1 + 1 + 1 + 1,0,none⟩)]) rfl trivial (enters_of Try.func68 (by kernel_rfl) rfl)
  (exprs_stops 5 (w.heap.size + 1 + 1 + 1) (w.heap.size + 1 + 1 + 1 + 1) (w.heap.size + 5) (fun k => k = w.heap.size + 1) (fun k h => by omega) w W0 t v0 v1 v2 v3 v4 v5 v6 HT.out hB0 (by omega) bA bP) kpE_t (kpE_b (by omega)) (Below.refl _ _) (fun _ => rfl)
  (fun pre W => Boxed W (w.heap.size + 1) 3 (.int .i64 (wrap64 (pre.length : Nat))) ∧ Below w.heap.size w W)
  (fun _ _ _ => False)
  (OwnFrom.and (Own.from (boxed_own _ _ _) _) (ownFrom_below (Nat.le_refl _) (by omega)))
  (fun _ _ _ _ _ hs _ _ => hs)
  ⟨by simpa [wrap64] using b1,hB0⟩
  (fun x a' _ => a' = { tmps := #[.agg #[v0,v1,v2,v3,v4,v5,v6],.pointer (some ⟨w.heap.size,0,none⟩),.int .i64 0,.pointer (some ⟨w.heap.size + 1,0,none⟩),.agg #[v0,v1,v2,v3,v4,v5,v6],.func (.func 68) #[] #[.pointer (some ⟨w.heap.size + 1 + 1 + 1,0,none⟩),.pointer (some ⟨w.heap.size + 1 + 1 + 1 + 1,0,none⟩)],.int .i64 x.d,.agg #[x.v0,x.v1,x.v2,x.v3,x.v4,x.v5,x.v6],undef,undef,undef],defers := [] })
  (fun _ _ _ _ _ _ hs _ _ => hs)
  ?assign ?body ?done ?stop
 case assign =>
  intro l pre x W K hi hK
  simp only [Ne.vals,zip2]
  gi_wp2
  exact hK _ _ (KeepsFrom.refl _ _) (KpE.refl _ _ _) hi rfl
 case body =>
  rintro l pre x a' W hl hr ⟨bS1,hB1⟩ rfl hlt
  have cS := bS1.cell
  have fS := bS1.frozen
  gi_wp2
  refine ⟨(KeepsOthers.setCell _ _ _).from _,KpE.store (S := fun k => k = w.heap.size + 1) W rfl (by omega) _,?_,hB1.setCell (p := ⟨w.heap.size + 1,0,none⟩) (by simp) _⟩
  have e : wrap64 (wrap64 (pre.length : Nat) + 1) = wrap64 ((pre ++ [x]).length : Nat) := by
   simp only [List.length_append,List.length_cons,List.length_nil]
   unfold wrap64
   omega
  rw [← e]
  exact bS1.set _
 case done =>
  rintro D xs W hD hxs ⟨bS1,hB1⟩ hK
  have cS := bS1.cell
  gi_wp2
  refine ⟨by simp,.inl ⟨_,_,rfl,run_takeDeferred hK,?_⟩⟩
  exact ⟨_,results_tmp rfl _ _ _,by rw [lenE_keys hxs,wrap_small (by omega) (by have := HN.out;omega)];rfl,hB1.trans (belowK_b (w := w) (Nat.le_refl _) W D _ _ (by omega) hK rfl rfl)⟩
 case stop =>
  rintro D c pre W _ _ h _
  exact h.elim
theorem calls_of_cp {k : FuncId} {ds : List D} {u : Value} (c : CP (TT ()) k ds (· = .raw u)) {w : World} {args : List Value} (hG : ∀ b o,G b o -> b < w.heap.size) (h : Pv.RdL (bare G) w ds args) :
  Calls Try.prog k args.toArray w fun e w' => e = .returned u ∧ Below w.heap.size w w' :=
 (c.2 G w args ⟨hG,by unfold ghost;simp⟩ h).mono fun e w' ⟨v,S',d,h1,h2,h3,_,_,h6⟩ => by
  subst h2
  simp only [Pv.Rd] at h6
  subst h6
  exact ⟨h1,h3⟩
def SoundOk : Prop := ∀ e,okE e -> nodesE e ≤ 1000000 -> CP (TT ()) 33 [exD e] (· = .raw (.bool (ownE e)))
mutual
theorem right_walkE : ∀ (t : Ex7) (d : Int),(walkE d t).all (fun p => ownE p.2) = rightE t
 | .mk k n nm hs ts ls ks,d => by
  simp only [walkE,rightE,List.all_cons]
  rw [right_walkEL ks]
theorem right_walkEL : ∀ (ks : List Ex7) (d : Int),(walkEL d ks).all (fun p => ownE p.2) = rightEL ks
 | [],d => rfl
 | t :: r,d => by
  simp only [walkEL,rightEL,List.all_append]
  rw [right_walkE t,right_walkEL r]
end
theorem allE_part {w0 : World} {pre : List (Ne G w0)} {l : List (Int × Ex7)} {p : Int × Ex7 -> Bool} (h : pre.map Ne.key <+: l) {y : Ne G w0} (hy : y ∈ pre) (hp : p y.key = false) : l.all p = false := by
 rw [Bool.eq_false_iff]
 intro hc
 rw [List.all_eq_true.1 hc y.key (h.subset (List.mem_map_of_mem hy))] at hp
 cases hp
theorem allE_keys {w0 : World} {pre : List (Ne G w0)} {l : List (Int × Ex7)} {p : Int × Ex7 -> Bool} (h : pre.map Ne.key = l) (hy : ∀ y ∈ pre,p y.key = true) : l.all p = true := by
 rw [← h,List.all_eq_true]
 intro q hq
 obtain ⟨y,hy',rfl⟩ := List.mem_map.1 hq
 exact hy y hy'
theorem sound_ne (hS : SoundOk) {w0 : World} (x : Ne G w0) (W : World) (hB : Below w0.heap.size w0 W) : Calls Try.prog 33 #[.agg #[x.v0,x.v1,x.v2,x.v3,x.v4,x.v5,x.v6]] W fun e w' =>
   e = .returned (.bool (ownE x.t)) ∧ Below W.heap.size W w' :=
 calls_of_cp (args := [.agg #[x.v0,x.v1,x.v2,x.v3,x.v4,x.v5,x.v6]]) (hS x.t x.h.1 x.h.2.1) (x.h.below hB).2.2.1 ⟨_,_,rfl,(x.h.below hB).2.2.2,rfl⟩
def Box7 (W : World) (B : Nat) {w0 : World} (x : Ne G w0) : Prop := W.heap[B]? = some (.cells #[x.v0,x.v1,x.v2,x.v3,x.v4,x.v5,x.v6] 26 (0,0))
theorem box7_own {w0 : World} (B : Nat) (x : Ne G w0) : Own (fun (_ : Unit) W => Box7 W B x) := fun s X Y row hs hg hrow => by
 have hlt : B < X.heap.size := (Array.getElem?_eq_some_iff.1 (show X.heap[B]? = _ from hs)).1
 exact (hg.block B hlt (fun e' => by obtain ⟨o,ho,hc⟩ := hrow B e'.symm;rw [show X.heap[B]? = _ from hs] at ho;cases ho;cases hc)).trans hs
theorem peright_any (hSo : SoundOk) (t : Ex7) (v0 v1 v2 v3 v4 v5 v6 : Value) (w : World) (hT : ExIn G w t v0 v1 v2 v3 v4 v5 v6) :
  Calls Try.prog 10 #[.agg #[v0,v1,v2,v3,v4,v5,v6]] w fun e w' => e = .returned (.bool (rightE t)) ∧ Below w.heap.size w w' := by
 refine (callsIn_wide (n := 8)).1 ?_
 have hf1 : Fence.wide.fn 32 := trivial
 have HT := Asd.mk hT
 clear hT
 refine callsIn_of_wp_marks Try.func10 rfl trivial ?_ rfl
 simp only [Try.ntmps10,List.size_toArray,List.length_cons,List.length_nil,Nat.reduceAdd,Nat.reduceSub,Array.replicate_succ,Array.replicate_zero,List.push_toArray,List.append_toArray,List.nil_append,List.cons_append]
 gi_wp2_with (gi_at_call 32;refine (callsIn_wide.2 (exprs_any v0 v1 v2 v3 v4 v5 v6 _)).mono ?_;rintro e w' ⟨rfl,rfl⟩)
 have b1 := boxed_exprW (Boxed.new (w.alloc (.cells #[v0,v1,v2,v3,v4,v5,v6] 26)) 4 (.bool false)) v0 v1 v2 v3 v4 v5 v6
 have bA := exprW_root ((w.alloc (.cells #[v0,v1,v2,v3,v4,v5,v6] 26)).alloc (.cells #[.bool false] 4)) v0 v1 v2 v3 v4 v5 v6
 have bP := exprW_parts ((w.alloc (.cells #[v0,v1,v2,v3,v4,v5,v6] 26)).alloc (.cells #[.bool false] 4)) v0 v1 v2 v3 v4 v5 v6
 have hB0 : Below w.heap.size w (exprW ((w.alloc (.cells #[v0,v1,v2,v3,v4,v5,v6] 26)).alloc (.cells #[.bool false] 4)) v0 v1 v2 v3 v4 v5 v6) := below_exprW (((Below.refl _ w).alloc (by first | omega | (simp only [World.size_alloc] <;> omega)) _).alloc (by first | omega | (simp only [World.size_alloc] <;> omega)) _) (by simp only [World.size_alloc] <;> omega) v0 v1 v2 v3 v4 v5 v6
 have hsz : (exprW ((w.alloc (.cells #[v0,v1,v2,v3,v4,v5,v6] 26)).alloc (.cells #[.bool false] 4)) v0 v1 v2 v3 v4 v5 v6).heap.size = w.heap.size + 5 := by rw [exprW_size];simp only [World.size_alloc] <;> omega
 simp only [World.size_alloc] at b1 bA bP
 obtain ⟨W0,hW0⟩ : ∃ W0,exprW ((w.alloc (.cells #[v0,v1,v2,v3,v4,v5,v6] 26)).alloc (.cells #[.bool false] 4)) v0 v1 v2 v3 v4 v5 v6 = W0 := ⟨_,rfl⟩
 rw [hW0] at b1 bA bP hB0 hsz ⊢
 clear hW0
 refine wpIn_rangeFunc_ownH rfl (by omega) (gf := 68) (lb := #[.pointer (some ⟨w.heap.size + 1 + 1 + 1,0,none⟩),.pointer (some ⟨w.heap.size + 1 + 1 + 1 + 1,0,none⟩)]) rfl trivial (enters_of Try.func68 (by kernel_rfl) rfl)
  (exprs_stops 7 (w.heap.size + 1 + 1 + 1) (w.heap.size + 1 + 1 + 1 + 1) (w.heap.size + 5) (fun k => k = w.heap.size + 1) (fun k h => by omega) w W0 t v0 v1 v2 v3 v4 v5 v6 HT.out hB0 (by omega) bA bP) kpE_t (kpE_b (by omega)) (Below.refl _ _) (fun _ => rfl)
  (fun pre W => (Boxed W (w.heap.size + 1) 4 (.bool false) ∧ (∀ y ∈ pre,ownE y.t = true)) ∧ Below w.heap.size w W)
  (fun c pre W => ((c = .ret ∧ ∃ y ∈ pre,ownE y.t = false) ∧ Boxed W (w.heap.size + 1) 4 (.bool false)) ∧ Below w.heap.size w W)
  (OwnFrom.and (OwnFrom.and (Own.from (boxed_own _ _ _) _) (ownFrom_pure _ _)) (ownFrom_below (Nat.le_refl _) (by omega)))
  (fun c => OwnFrom.and (OwnFrom.and (ownFrom_pure _ _) (Own.from (boxed_own _ _ _) _)) (ownFrom_below (Nat.le_refl _) (by omega)))
  ⟨⟨b1,by simp⟩,hB0⟩
  (fun x a' W => ∃ Bx,Box7 W Bx x ∧ a' = { tmps := #[.agg #[v0,v1,v2,v3,v4,v5,v6],.pointer (some ⟨w.heap.size,0,none⟩),.pointer (some ⟨w.heap.size + 1,0,none⟩),undef,.pointer (some ⟨Bx,0,none⟩),.agg #[v0,v1,v2,v3,v4,v5,v6],.func (.func 68) #[] #[.pointer (some ⟨w.heap.size + 1 + 1 + 1,0,none⟩),.pointer (some ⟨w.heap.size + 1 + 1 + 1 + 1,0,none⟩)],.int .i64 x.d,.agg #[x.v0,x.v1,x.v2,x.v3,x.v4,x.v5,x.v6],undef,undef,undef],defers := [] })
  (fun x a' _ X Y row hs hg hr => by
   obtain ⟨Bx,h1,h2⟩ := hs
   exact ⟨Bx,box7_own Bx x () X Y row h1 hg (fun r e => (hr r e).2),h2⟩)
  ?assign ?body ?done ?stop
 case assign =>
  rintro l pre x W K ⟨⟨bR1,h3⟩,hB1⟩ hK
  have hW := hB1.size
  obtain ⟨d,t',u0,u1,u2,u3,u4,u5,u6,hu⟩ := x
  obtain ⟨k',n',nm',hs',ts',ls',ks'⟩ := t'
  obtain ⟨a4',c4x,a5',c5x,a6',c6x,rfl,rfl,rfl,rfl,rfl,rfl,rfl,_⟩ := hu.form
  simp only [Ne.vals,zip2]
  gi_wp2
  exact hK _ _ ((KeepsOthers.alloc _ _).from _) (KpE.of_below hW ((Below.refl _ _).alloc (Nat.le_refl _) _)) ⟨⟨bR1.alloc _,h3⟩,hB1.alloc hB1.size _⟩ ⟨W.heap.size,World.alloc_heap_new W _,rfl⟩
 case body =>
  rintro l pre x a' W hl hr ⟨⟨bR1,h3⟩,hB1⟩ ⟨Bx,bX,rfl⟩ hlt
  have c0 := box_cell (i := 0) bX rfl
  have c1 := box_cell (i := 1) bX rfl
  have c2 := box_cell (i := 2) bX rfl
  have c3 := box_cell (i := 3) bX rfl
  have c4 := box_cell (i := 4) bX rfl
  have c5 := box_cell (i := 5) bX rfl
  have c6 := box_cell (i := 6) bX rfl
  have h1' : 1 ≤ 8 - 1 - 1 := by omega
  have hf2 : Fence.wide.fn 33 := trivial
  have hf3 : (Fence.wide.inRound l).fn 33 := trivial
  have HS := Asd.mk (sound_ne hSo x W hB1)
  rcases Bool.eq_false_or_eq_true (ownE x.t) with hq | hq
  ·gi_wp2_with (gi_at_call 33;refine (CallsIn.inRound l (callsIn_wide.2 HS.out)).mono ?_;rintro e w2 ⟨rfl,hb2⟩;rw [hq])
   refine ⟨keepsFrom_below hb2,KpE.of_below hB1.size hb2,⟨Boxed.below bR1 hb2,fun y hy => ?_⟩,hB1.trans (hb2.mono hB1.size)⟩
   rcases List.mem_append.1 hy with hy | hy
   ·exact h3 y hy
   ·rw [List.mem_singleton.1 hy]
    exact hq
  ·gi_wp2_with (gi_at_call 33;refine (CallsIn.inRound l (callsIn_wide.2 HS.out)).mono ?_;rintro e w2 ⟨rfl,hb2⟩;rw [hq];have cR := (Boxed.below bR1 hb2).cell;have fR := (Boxed.below bR1 hb2).frozen)
   refine ⟨(keepsFrom_below hb2).trans ((KeepsOthers.setCell _ _ _).from _),⟨⟨rfl,⟨_,List.mem_append_right _ (List.mem_singleton.2 rfl),hq⟩⟩,(Boxed.below bR1 hb2).set _⟩,(hB1.trans (hb2.mono hB1.size)).setCell (p := ⟨w.heap.size + 1,0,none⟩) (by simp) _⟩
 case done =>
  rintro D xs W hD hxs ⟨⟨bR1,h3⟩,hB1⟩ hK
  have cR := bR1.cell
  have fR := bR1.frozen
  gi_wp2
  have hK' := (KeepsOthers.setCell W ⟨w.heap.size + 1,0,none⟩ (.bool true)).same D _ hK rfl
  refine ⟨by simp,.inl ⟨_,_,rfl,run_takeDeferred hK',?_⟩⟩
  have hc5 := cell_kept (bR1.set (.bool true)).cell (grownBy_putObj' _ D (.deferred none)) (fun r e => by cases e;exact ⟨_,hK',rfl⟩)
  refine ⟨.bool true,?_,by rw [← right_walkE t 1,allE_keys hxs (fun y hy => h3 y hy)],(hB1.setCell (p := ⟨w.heap.size + 1,0,none⟩) (by simp) _).trans (belowK_b (w := w) (Nat.le_refl _) _ D _ _ (by omega) hK' rfl rfl)⟩
  simp [results,Try.results10,go_sem,hc5]
 case stop =>
  rintro D c pre W hD hpre ⟨⟨⟨rfl,y,hy,hk⟩,bR1⟩,hB1⟩ hK
  gi_wp2
  refine ⟨by simp,.inl ⟨_,_,rfl,run_takeDeferred hK,?_⟩⟩
  have hc5 := cell_kept bR1.cell (grownBy_putObj' _ D (.deferred none)) (fun r e => by cases e;exact ⟨_,hK,rfl⟩)
  refine ⟨.bool false,?_,by rw [← right_walkE t 1,allE_part hpre hy hk],hB1.trans (belowK_b (w := w) (Nat.le_refl _) W D _ _ (by omega) hK rfl rfl)⟩
  simp [results,Try.results10,go_sem,hc5]
attribute [local go_sem] Oper.semAt_some
variable {G : Nat -> Nat -> Prop}
theorem tys_row {w : World} {ts : List Ty5} {a4 : Option Addr} {c4 : Nat} (ho : okT.okL ts) (h : Pv.Rd (bare G) w (.sl none 5 (tysD ts)) (.slice a4 ts.length c4)) : ts = [] ∨ ∃ b off,a4 = some ⟨b,off,none⟩ ∧ RowIn w b off ts := by
 obtain ⟨_,hx,_⟩ := h
 rw [tys_len] at hx
 by_cases h0 : 0 < ts.length
 ·obtain ⟨b,off,cap',hv,_,hr⟩ := hx h0
  simp at hv
  exact .inr ⟨b,off,hv.1,tys_in ts b off ho hr⟩
 ·exact .inl (List.eq_nil_of_length_eq_zero (by omega))
theorem kAt_some {ts : List Ty5} {j : Nat} (h : j < ts.length) : ts[j]? = some (kAt ts j) := by
 have h1 := take_kAt h
 have h2 : (ts.take (j + 1))[j]? = some (kAt ts j) := by
  rw [h1,List.getElem?_append_right (by simp;omega)]
  simp [show min j ts.length = j by omega]
 rwa [List.getElem?_take,if_pos (by omega)] at h2
theorem nodesL_part {ts : List Ty5} {j : Nat} (h : j < ts.length) : nodesT (kAt ts j) ≤ nodesL ts := by
 have h1 := nodesL_step14 (kAt_some h)
 have h2 : nodesL (ts.take (j + 1)) ≤ nodesL ts := by
  have : ∀ (a : List Ty5) (i : Nat),nodesL (a.take i) ≤ nodesL a := fun a => by
   induction a with
   | nil => intro i;simp [nodesL]
   | cons x r ih =>
    intro i
    cases i with
    | zero => simp [nodesL]
    | succ i =>
     have := ih i
     simp only [List.take_succ_cons,nodesL]
     omega
  exact this ts (j + 1)
 omega
theorem below_drew {B : Nat} {a w : World} (h : Below B a w) : Below B a w.drew := ⟨h.os,h.tape,h.output,h.size,fun k hk => h.block k hk⟩
theorem boxed_drew {W : World} {B : Nat} {t : TypeId} {v : Value} (h : Boxed W B t v) : Boxed W.drew B t v := h
def Ex7.ts : Ex7 -> List Ty5
 | .mk _ _ _ _ ts _ _ => ts
def sumX {w0 : World} (xs : List (Ne G w0)) : Int := xs.foldl (fun a x => wrap64 (wrap64 (a + 1) + ((nodesL x.t.ts : Nat) : Int))) 0
theorem sumX_snoc {w0 : World} (xs : List (Ne G w0)) (x : Ne G w0) : sumX (xs ++ [x]) = wrap64 (wrap64 (sumX xs + 1) + ((nodesL x.t.ts : Nat) : Int)) := by simp [sumX]
mutual
theorem nodes_foldE : ∀ (t : Ex7) (d a : Int),0 ≤ a -> a + nodesE t ≤ 1000001 -> (walkE d t).foldl (fun a p => wrap64 (wrap64 (a + 1) + ((nodesL p.2.ts : Nat) : Int))) a = a + nodesE t
 | .mk k n nm hs ts ls ks,d,a,h0,h1 => by
  simp only [nodesE] at h1 ⊢
  simp only [walkE,List.foldl_cons]
  rw [show wrap64 (wrap64 (a + 1) + ((nodesL (Ex7.mk k n nm hs ts ls ks).ts : Nat) : Int)) = a + 1 + (nodesL ts : Nat) by simp only [Ex7.ts];unfold wrap64;omega,nodes_foldEL ks _ _ (by omega) (by omega)]
  omega
theorem nodes_foldEL : ∀ (ks : List Ex7) (d a : Int),0 ≤ a -> a + nodesEL ks ≤ 1000001 -> (walkEL d ks).foldl (fun a p => wrap64 (wrap64 (a + 1) + ((nodesL p.2.ts : Nat) : Int))) a = a + nodesEL ks
 | [],d,a,h0,h1 => by simp [walkEL,nodesEL]
 | t :: r,d,a,h0,h1 => by
  simp only [nodesEL] at h1 ⊢
  simp only [walkEL,List.foldl_append]
  rw [nodes_foldE t d a h0 (by omega),nodes_foldEL r d _ (by omega) (by omega)]
  omega
end
theorem sumX_keys {w0 : World} {xs : List (Ne G w0)} {t : Ex7} (h : xs.map Ne.key = walkE 1 t) (hn : nodesE t ≤ 1000000) : sumX xs = nodesE t := by
 have h1 := nodes_foldE t 1 0 (by omega) (by omega)
 rw [← h,List.foldl_map] at h1
 unfold sumX
 refine Eq.trans ?_ (h1.trans (by omega))
 rfl
theorem penodes_any (t : Ex7) (v0 v1 v2 v3 v4 v5 v6 : Value) (w : World) (hT : ExIn G w t v0 v1 v2 v3 v4 v5 v6) :
  Calls Try.prog 12 #[.agg #[v0,v1,v2,v3,v4,v5,v6]] w fun e w' => e = .returned (.int .i64 (nodesE t)) ∧ Below w.heap.size w w' := by
 refine (callsIn_wide (n := 9)).1 ?_
 have hf1 : Fence.wide.fn 32 := trivial
 have HT := Asd.mk hT
 clear hT
 refine callsIn_of_wp_marks Try.func12 rfl trivial ?_ rfl
 simp only [Try.ntmps12,List.size_toArray,List.length_cons,List.length_nil,Nat.reduceAdd,Nat.reduceSub,Array.replicate_succ,Array.replicate_zero,List.push_toArray,List.append_toArray,List.nil_append,List.cons_append]
 gi_wp2_with (gi_at_call 32;refine (callsIn_wide.2 (exprs_any v0 v1 v2 v3 v4 v5 v6 _)).mono ?_;rintro e w' ⟨rfl,rfl⟩)
 have b1 := boxed_exprW (Boxed.new (w.alloc (.cells #[v0,v1,v2,v3,v4,v5,v6] 26)) 3 (.int .i64 0)) v0 v1 v2 v3 v4 v5 v6
 have bA := exprW_root ((w.alloc (.cells #[v0,v1,v2,v3,v4,v5,v6] 26)).alloc (.cells #[.int .i64 0] 3)) v0 v1 v2 v3 v4 v5 v6
 have bP := exprW_parts ((w.alloc (.cells #[v0,v1,v2,v3,v4,v5,v6] 26)).alloc (.cells #[.int .i64 0] 3)) v0 v1 v2 v3 v4 v5 v6
 have hB0 : Below w.heap.size w (exprW ((w.alloc (.cells #[v0,v1,v2,v3,v4,v5,v6] 26)).alloc (.cells #[.int .i64 0] 3)) v0 v1 v2 v3 v4 v5 v6) := below_exprW (((Below.refl _ w).alloc (by first | omega | (simp only [World.size_alloc] <;> omega)) _).alloc (by first | omega | (simp only [World.size_alloc] <;> omega)) _) (by simp only [World.size_alloc] <;> omega) v0 v1 v2 v3 v4 v5 v6
 have hsz : (exprW ((w.alloc (.cells #[v0,v1,v2,v3,v4,v5,v6] 26)).alloc (.cells #[.int .i64 0] 3)) v0 v1 v2 v3 v4 v5 v6).heap.size = w.heap.size + 5 := by rw [exprW_size];simp only [World.size_alloc] <;> omega
 simp only [World.size_alloc] at b1 bA bP
 obtain ⟨W0,hW0⟩ : ∃ W0,exprW ((w.alloc (.cells #[v0,v1,v2,v3,v4,v5,v6] 26)).alloc (.cells #[.int .i64 0] 3)) v0 v1 v2 v3 v4 v5 v6 = W0 := ⟨_,rfl⟩
 rw [hW0] at b1 bA bP hB0 hsz ⊢
 clear hW0
 refine wpIn_rangeFunc_ownH rfl (by omega) (gf := 68) (lb := #[.pointer (some ⟨w.heap.size + 1 + 1 + 1,0,none⟩),.pointer (some ⟨w.heap.size + 1 + 1 + 1 + 1,0,none⟩)]) rfl trivial (enters_of Try.func68 (by kernel_rfl) rfl)
  (exprs_stops 8 (w.heap.size + 1 + 1 + 1) (w.heap.size + 1 + 1 + 1 + 1) (w.heap.size + 5) (fun k => k = w.heap.size + 1) (fun k h => by omega) w W0 t v0 v1 v2 v3 v4 v5 v6 HT.out hB0 (by omega) bA bP) kpE_t (kpE_b (by omega)) (Below.refl _ _) (fun _ => rfl)
  (fun pre W => Boxed W (w.heap.size + 1) 3 (.int .i64 (sumX pre)) ∧ Below w.heap.size w W)
  (fun _ _ _ => False)
  (OwnFrom.and (Own.from (boxed_own _ _ _) _) (ownFrom_below (Nat.le_refl _) (by omega)))
  (fun _ _ _ _ _ hs _ _ => hs)
  ⟨b1,hB0⟩
  (fun x a' W => ∃ Bx,Box7 W Bx x ∧ a' = { tmps := #[.agg #[v0,v1,v2,v3,v4,v5,v6],.pointer (some ⟨w.heap.size,0,none⟩),.int .i64 0,.pointer (some ⟨w.heap.size + 1,0,none⟩),undef,.pointer (some ⟨Bx,0,none⟩),undef,undef,.agg #[v0,v1,v2,v3,v4,v5,v6],.func (.func 68) #[] #[.pointer (some ⟨w.heap.size + 1 + 1 + 1,0,none⟩),.pointer (some ⟨w.heap.size + 1 + 1 + 1 + 1,0,none⟩)],.int .i64 x.d,.agg #[x.v0,x.v1,x.v2,x.v3,x.v4,x.v5,x.v6],undef,undef,undef,undef,undef,undef,undef,undef,undef,undef,undef,undef,undef,undef,undef],defers := [] })
  (fun x a' _ X Y row hs hg hr => by
   obtain ⟨Bx,h1,h2⟩ := hs
   exact ⟨Bx,box7_own Bx x () X Y row h1 hg (fun r e => (hr r e).2),h2⟩)
  ?assign ?body ?done ?stop
 case assign =>
  rintro l pre x W K ⟨bR1,hB1⟩ hK
  have hW := hB1.size
  obtain ⟨d,t',u0,u1,u2,u3,u4,u5,u6,hu⟩ := x
  obtain ⟨k',n',nm',hs',ts',ls',ks'⟩ := t'
  obtain ⟨a4',c4x,a5',c5x,a6',c6x,rfl,rfl,rfl,rfl,rfl,rfl,rfl,_⟩ := hu.form
  simp only [Ne.vals,zip2]
  gi_wp2
  exact hK _ _ ((KeepsOthers.alloc _ _).from _) (KpE.of_below hW ((Below.refl _ _).alloc (Nat.le_refl _) _)) ⟨bR1.alloc _,hB1.alloc hB1.size _⟩ ⟨W.heap.size,World.alloc_heap_new W _,rfl⟩
 case body =>
  rintro l pre x a' W hl hr ⟨bR1,hB1⟩ ⟨Bx,bX,rfl⟩ hlt
  obtain ⟨d,⟨k,n,nm,hs,ts,ls,ks⟩,u0,u1,u2,u3,u4,u5,u6,hu⟩ := x
  have hns := hu.2.1
  have hok := hu.1.2.1
  obtain ⟨a4,c4,a5,c5,a6,c6,rfl,rfl,rfl,rfl,rfl,rfl,rfl,_,hts,hrd,_⟩ := hu.form
  unfold maxLen at hts
  have hty := tys_row hok hrd
  clear hrd hok
  have e4 := box_cell (i := 4) bX rfl
  have cS := bR1.cell
  have fS := bR1.frozen
  have h1' : 1 ≤ 9 - 1 - 1 := by omega
  have hf2 : Fence.wide.fn 35 := trivial
  have hf3 : (Fence.wide.inRound l).fn 35 := trivial
  have hmx : Try.prog.follows .mixedOrders = true := by kernel_rfl
  dsimp only at bX e4 ⊢
  have HTY := Asd.mk hty
  have HNS := Asd.mk hns
  have HB1 := Asd.mk hB1
  have HR1 := Asd.mk bR1
  have HX := Asd.mk bX
  clear hty hns hB1 bR1 bX hr
  gi_wp2
  gi_loopw [17] (fun i wr => ∃ j : Nat,j ≤ ts.length ∧ i = .int .i64 j ∧ Asd (Boxed wr (w.heap.size + 1) 3 (.int .i64 (wrap64 (wrap64 (sumX pre + 1) + ((nodesL (ts.take j) : Nat) : Int)))) ∧ KeepsFrom W0.heap.size W wr ∧ KpE w.heap.size (fun k => k = w.heap.size + 1) W wr ∧ Below w.heap.size w wr)) (fun i _ => ts.length - (intOf i).toNat)
  case atStart => exact ⟨0,by omega,rfl,⟨by rw [show wrap64 (wrap64 (sumX pre + 1) + ((nodesL (ts.take 0) : Nat) : Int)) = wrap64 (sumX pre + 1) by rw [List.take_zero];simp only [nodesL];unfold wrap64;omega];exact HR1.out.set _,(KeepsOthers.setCell _ _ _).from _,KpE.store (S := fun k => k = w.heap.size + 1) W rfl (by omega) _,HB1.out.setCell (p := ⟨w.heap.size + 1,0,none⟩) (by simp) _⟩⟩
  case round =>
   obtain ⟨j,hj,rfl,HQ⟩ := hrel
   obtain ⟨bq,kq,pq,Bq⟩ := HQ.out
   by_cases hlt : j < ts.length
   ·rcases HTY.out with e | ⟨b,off,e,hrow⟩
    ·rw [e] at hlt
     exact absurd hlt (Nat.not_lt_zero _)
    subst e
    obtain ⟨x0,x1,x2,x3,x4,q0,q1,q2,q3,q4,ht⟩ := hrow.at hlt
    have q0 := cell_below Bq q0
    have q1 := cell_below Bq q1
    have q2 := cell_below Bq q2
    have q3 := cell_below Bq q3
    have q4 := cell_below Bq q4
    obtain ⟨k',n',nm',a',l',cc',a'',l'',cc'',rfl,rfl,rfl,rfl,rfl⟩ := ht.form
    have hnk : nodesT (kAt ts j) ≤ 1000000 := by
     have h1 := HNS.out
     have h2 := nodesL_part hlt
     simp only [nodesE] at h1
     omega
    have HC : Asd (∀ X : World,Below wr.heap.size wr X -> Calls Try.prog 35 #[.agg #[.int .i64 k',.int .i64 n',.string nm',.slice a' l' cc',.slice a'' l'' cc'']] X fun e w' => e = .returned (.int .i64 (nodesT (kAt ts j))) ∧ Below X.heap.size X w') :=
     ⟨fun X hX => pnodes_any (kAt ts j) _ _ _ _ _ X (ht.mono (Bq.trans (hX.mono Bq.size))) hnk⟩
    have cq := bq.cell
    have fq := bq.frozen
    have cq' := (bq.alloc (.cells #[.int .i64 k',.int .i64 n',.string nm',.slice a' l' cc',.slice a'' l'' cc''] 38)).cell
    have hBa : Asd (Below wr.heap.size wr (wr.alloc (.cells #[.int .i64 k',.int .i64 n',.string nm',.slice a' l' cc',.slice a'' l'' cc''] 38))) := ⟨(Below.refl _ _).alloc (Nat.le_refl _) _⟩
    have HBQ := Asd.mk bq
    have HKQ := Asd.mk kq
    have HPQ := Asd.mk pq
    have HBBQ := Asd.mk Bq
    clear bq kq pq Bq ht hrow HQ
    gi_wp2
    gi_region_with_o (gi_at_call 35;refine (CallsIn.inRound l (callsIn_wide.2 (HC.out _ (below_drew hBa.out)))).mono ?_;rintro e w2 ⟨rfl,hb2⟩;have cR := (Boxed.below (boxed_drew (HBQ.out.alloc _)) hb2).cell;have fR := (Boxed.below (boxed_drew (HBQ.out.alloc _)) hb2).frozen)
    all_goals gi_wp2
    all_goals
     have hs1 : w.heap.size ≤ wr.heap.size := HBBQ.out.size
     have hs2 : w.heap.size ≤ (wr.alloc (.cells #[.int .i64 k',.int .i64 n',.string nm',.slice a' l' cc',.slice a'' l'' cc''] 38)).drew.heap.size := Nat.le_trans hs1 (below_drew hBa.out).size
     refine ⟨⟨j + 1,by omega,by simp,⟨?_,HKQ.out.trans ((keepsFrom_below (below_drew hBa.out)).trans ((keepsFrom_below hb2).trans ((KeepsOthers.setCell _ _ _).from _))),kpE_t HPQ.out (kpE_t (KpE.of_below hs1 (below_drew hBa.out)) (kpE_t (KpE.of_below hs2 hb2) (KpE.store (S := fun k => k = w.heap.size + 1) _ rfl (by omega) _))),((HBBQ.out.trans ((below_drew hBa.out).mono hs1)).trans (hb2.mono hs2)).setCell (p := ⟨w.heap.size + 1,0,none⟩) (by simp) _⟩⟩,by simp [intOf];omega⟩
     have e : wrap64 (wrap64 (wrap64 (sumX pre + 1) + ((nodesL (ts.take j) : Nat) : Int)) + ((nodesT (kAt ts j) : Nat) : Int)) = wrap64 (wrap64 (sumX pre + 1) + ((nodesL (ts.take (j + 1)) : Nat) : Int)) := by
      rw [nodesL_step14 (kAt_some hlt)]
      unfold wrap64
      omega
     rw [← e]
     exact (Boxed.below (boxed_drew (HBQ.out.alloc _)) hb2).set _
   ·have : j = ts.length := by omega
    subst this
    gi_wp2
    refine ⟨kq,pq,?_,Bq⟩
    rw [sumX_snoc]
    rw [List.take_length] at bq
    exact bq
 case done =>
  rintro D xs W hD hxs ⟨bS1,hB1⟩ hK
  have cS := bS1.cell
  gi_wp2
  refine ⟨by simp,.inl ⟨_,_,rfl,run_takeDeferred hK,?_⟩⟩
  exact ⟨_,results_tmp rfl _ _ _,by rw [sumX_keys hxs HT.out.2.1];rfl,hB1.trans (belowK_b (w := w) (Nat.le_refl _) W D _ _ (by omega) hK rfl rfl)⟩
 case stop =>
  rintro D c pre W _ _ h _
  exact h.elim
attribute [local go_sem] Oper.semAt_some
variable {G : Nat -> Nat -> Prop}
def foldD (d g : Int) (ts : List Ty5) : Int := ts.foldl (fun m t => max m (wrap64 (d + ((depthT t : Nat) : Int)))) g
theorem foldD_step {ts : List Ty5} {j : Nat} {d g : Int} (h : j < ts.length) : foldD d g (ts.take (j + 1)) = max (foldD d g (ts.take j)) (wrap64 (d + ((depthT (kAt ts j) : Nat) : Int))) := by
 rw [take_kAt h]
 simp [foldD]
def maxX {w0 : World} (xs : List (Ne G w0)) : Int := xs.foldl (fun m x => foldD x.d (max m x.d) x.t.ts) 0
theorem maxX_snoc {w0 : World} (xs : List (Ne G w0)) (x : Ne G w0) : maxX (xs ++ [x]) = foldD x.d (max (maxX xs) x.d) x.t.ts := by simp [maxX]
theorem foldD_is : ∀ (ts : List Ty5) (d g : Int),0 ≤ d -> d ≤ g -> d + depthL ts ≤ 1000001 -> foldD d g ts = max g (d + depthL ts)
 | [],d,g,h0,h1,h2 => by
  simp only [foldD,List.foldl_nil,depthL]
  omega
 | t :: r,d,g,h0,h1,h2 => by
  simp only [depthL] at h2 ⊢
  have e : foldD d g (t :: r) = foldD d (max g (wrap64 (d + ((depthT t : Nat) : Int)))) r := rfl
  rw [e,show wrap64 (d + ((depthT t : Nat) : Int)) = d + depthT t by unfold wrap64;omega,foldD_is r d _ h0 (by omega) (by omega)]
  omega
mutual
theorem depth_foldE : ∀ (t : Ex7) (d g : Int),0 ≤ d -> d + depthE t ≤ 1000001 -> (walkE d t).foldl (fun m p => foldD p.1 (max m p.1) p.2.ts) g = max g (d + depthE t - 1)
 | .mk k n nm hs ts ls ks,d,g,h0,h1 => by
  simp only [depthE] at h1 ⊢
  simp only [walkE,List.foldl_cons]
  rw [show foldD d (max g d) (Ex7.mk k n nm hs ts ls ks).ts = max (max g d) (d + depthL ts) from foldD_is ts d (max g d) h0 (by omega) (by omega),wrap_small (by omega) (by omega),depth_foldEL ks (d + 1) _ (by omega) (by omega) (by omega)]
  omega
theorem depth_foldEL : ∀ (ks : List Ex7) (d g : Int),0 ≤ d -> d - 1 ≤ g -> d + depthEL ks ≤ 1000001 -> (walkEL d ks).foldl (fun m p => foldD p.1 (max m p.1) p.2.ts) g = max g (d + depthEL ks - 1)
 | [],d,g,h0,hg,h1 => by
  simp only [walkEL,depthEL,List.foldl_nil]
  omega
 | t :: r,d,g,h0,hg,h1 => by
  simp only [depthEL] at h1 ⊢
  simp only [walkEL,List.foldl_append]
  rw [depth_foldE t d g h0 (by omega),depth_foldEL r d _ h0 (by omega) (by omega)]
  omega
end
theorem maxX_keys {w0 : World} {xs : List (Ne G w0)} {t : Ex7} (h : xs.map Ne.key = walkE 1 t) (hn : nodesE t ≤ 1000000) : maxX xs = depthE t := by
 have h0 := depth_nodesE t
 have h1 := depth_foldE t 1 0 (by omega) (by omega)
 rw [← h,List.foldl_map] at h1
 unfold maxX
 refine Eq.trans ?_ (h1.trans (by omega))
 rfl
theorem pedepth_any (t : Ex7) (v0 v1 v2 v3 v4 v5 v6 : Value) (w : World) (hT : ExIn G w t v0 v1 v2 v3 v4 v5 v6) :
  Calls Try.prog 14 #[.agg #[v0,v1,v2,v3,v4,v5,v6]] w fun e w' => e = .returned (.int .i64 (depthE t)) ∧ Below w.heap.size w w' := by
 refine (callsIn_wide (n := 9)).1 ?_
 have hf1 : Fence.wide.fn 32 := trivial
 have HT := Asd.mk hT
 clear hT
 refine callsIn_of_wp_marks Try.func14 rfl trivial ?_ rfl
 simp only [Try.ntmps14,List.size_toArray,List.length_cons,List.length_nil,Nat.reduceAdd,Nat.reduceSub,Array.replicate_succ,Array.replicate_zero,List.push_toArray,List.append_toArray,List.nil_append,List.cons_append]
 gi_wp2_with (gi_at_call 32;refine (callsIn_wide.2 (exprs_any v0 v1 v2 v3 v4 v5 v6 _)).mono ?_;rintro e w' ⟨rfl,rfl⟩)
 have b1 := boxed_exprW (Boxed.new (w.alloc (.cells #[v0,v1,v2,v3,v4,v5,v6] 26)) 3 (.int .i64 0)) v0 v1 v2 v3 v4 v5 v6
 have bA := exprW_root ((w.alloc (.cells #[v0,v1,v2,v3,v4,v5,v6] 26)).alloc (.cells #[.int .i64 0] 3)) v0 v1 v2 v3 v4 v5 v6
 have bP := exprW_parts ((w.alloc (.cells #[v0,v1,v2,v3,v4,v5,v6] 26)).alloc (.cells #[.int .i64 0] 3)) v0 v1 v2 v3 v4 v5 v6
 have hB0 : Below w.heap.size w (exprW ((w.alloc (.cells #[v0,v1,v2,v3,v4,v5,v6] 26)).alloc (.cells #[.int .i64 0] 3)) v0 v1 v2 v3 v4 v5 v6) := below_exprW (((Below.refl _ w).alloc (by first | omega | (simp only [World.size_alloc] <;> omega)) _).alloc (by first | omega | (simp only [World.size_alloc] <;> omega)) _) (by simp only [World.size_alloc] <;> omega) v0 v1 v2 v3 v4 v5 v6
 have hsz : (exprW ((w.alloc (.cells #[v0,v1,v2,v3,v4,v5,v6] 26)).alloc (.cells #[.int .i64 0] 3)) v0 v1 v2 v3 v4 v5 v6).heap.size = w.heap.size + 5 := by rw [exprW_size];simp only [World.size_alloc] <;> omega
 simp only [World.size_alloc] at b1 bA bP
 obtain ⟨W0,hW0⟩ : ∃ W0,exprW ((w.alloc (.cells #[v0,v1,v2,v3,v4,v5,v6] 26)).alloc (.cells #[.int .i64 0] 3)) v0 v1 v2 v3 v4 v5 v6 = W0 := ⟨_,rfl⟩
 rw [hW0] at b1 bA bP hB0 hsz ⊢
 clear hW0
 refine wpIn_rangeFunc_ownH rfl (by omega) (gf := 68) (lb := #[.pointer (some ⟨w.heap.size + 1 + 1 + 1,0,none⟩),.pointer (some ⟨w.heap.size + 1 + 1 + 1 + 1,0,none⟩)]) rfl trivial (enters_of Try.func68 (by kernel_rfl) rfl)
  (exprs_stops 8 (w.heap.size + 1 + 1 + 1) (w.heap.size + 1 + 1 + 1 + 1) (w.heap.size + 5) (fun k => k = w.heap.size + 1) (fun k h => by omega) w W0 t v0 v1 v2 v3 v4 v5 v6 HT.out hB0 (by omega) bA bP) kpE_t (kpE_b (by omega)) (Below.refl _ _) (fun _ => rfl)
  (fun pre W => Boxed W (w.heap.size + 1) 3 (.int .i64 (maxX pre)) ∧ Below w.heap.size w W)
  (fun _ _ _ => False)
  (OwnFrom.and (Own.from (boxed_own _ _ _) _) (ownFrom_below (Nat.le_refl _) (by omega)))
  (fun _ _ _ _ _ hs _ _ => hs)
  ⟨b1,hB0⟩
  (fun x a' W => ∃ Bx,Box7 W Bx x ∧ a' = { tmps := #[.agg #[v0,v1,v2,v3,v4,v5,v6],.pointer (some ⟨w.heap.size,0,none⟩),.int .i64 0,.pointer (some ⟨w.heap.size + 1,0,none⟩),.int .i64 x.d,.pointer (some ⟨Bx,0,none⟩),undef,undef,.agg #[v0,v1,v2,v3,v4,v5,v6],.func (.func 68) #[] #[.pointer (some ⟨w.heap.size + 1 + 1 + 1,0,none⟩),.pointer (some ⟨w.heap.size + 1 + 1 + 1 + 1,0,none⟩)],.int .i64 x.d,.agg #[x.v0,x.v1,x.v2,x.v3,x.v4,x.v5,x.v6],undef,undef,undef,undef,undef,undef,undef,undef,undef,undef,undef,undef,undef,undef,undef,undef,undef,undef],defers := [] })
  (fun x a' _ X Y row hs hg hr => by
   obtain ⟨Bx,h1,h2⟩ := hs
   exact ⟨Bx,box7_own Bx x () X Y row h1 hg (fun r e => (hr r e).2),h2⟩)
  ?assign ?body ?done ?stop
 case assign =>
  rintro l pre x W K ⟨bR1,hB1⟩ hK
  have hW := hB1.size
  obtain ⟨d,t',u0,u1,u2,u3,u4,u5,u6,hu⟩ := x
  obtain ⟨k',n',nm',hs',ts',ls',ks'⟩ := t'
  obtain ⟨a4',c4x,a5',c5x,a6',c6x,rfl,rfl,rfl,rfl,rfl,rfl,rfl,_⟩ := hu.form
  simp only [Ne.vals,zip2]
  gi_wp2
  exact hK _ _ ((KeepsOthers.alloc _ _).from _) (KpE.of_below hW ((Below.refl _ _).alloc (Nat.le_refl _) _)) ⟨bR1.alloc _,hB1.alloc hB1.size _⟩ ⟨W.heap.size,World.alloc_heap_new W _,rfl⟩
 case body =>
  rintro l pre x a' W hl hr ⟨bR1,hB1⟩ ⟨Bx,bX,rfl⟩ hlt
  obtain ⟨d,⟨k,n,nm,hs,ts,ls,ks⟩,u0,u1,u2,u3,u4,u5,u6,hu⟩ := x
  have hns := hu.2.1
  have hok := hu.1.2.1
  obtain ⟨a4,c4,a5,c5,a6,c6,rfl,rfl,rfl,rfl,rfl,rfl,rfl,_,hts,hrd,_⟩ := hu.form
  unfold maxLen at hts
  have hty := tys_row hok hrd
  clear hrd hok
  have e4 := box_cell (i := 4) bX rfl
  have cS := bR1.cell
  have fS := bR1.frozen
  have h1' : 1 ≤ 9 - 1 - 1 := by omega
  have hf2 : Fence.wide.fn 36 := trivial
  have hf3 : (Fence.wide.inRound l).fn 36 := trivial
  have hmx : Try.prog.follows .mixedOrders = true := by kernel_rfl
  dsimp only at bX e4 ⊢
  have HTY := Asd.mk hty
  have HNS := Asd.mk hns
  have HB1 := Asd.mk hB1
  have HR1 := Asd.mk bR1
  have HX := Asd.mk bX
  clear hty hns hB1 bR1 bX hr
  gi_wp2
  all_goals
   gi_loopw [18] (fun i wr => ∃ j : Nat,j ≤ ts.length ∧ i = .int .i64 j ∧ Asd (Boxed wr (w.heap.size + 1) 3 (.int .i64 (foldD d (max (maxX pre) d) (ts.take j))) ∧ KeepsFrom W0.heap.size W wr ∧ KpE w.heap.size (fun k => k = w.heap.size + 1) W wr ∧ Below w.heap.size w wr)) (fun i _ => ts.length - (intOf i).toNat)
   case atStart =>
    refine ⟨0,by omega,rfl,⟨?_,(KeepsOthers.setCell _ _ _).from _,KpE.store (S := fun k => k = w.heap.size + 1) W rfl (by omega) _,HB1.out.setCell (p := ⟨w.heap.size + 1,0,none⟩) (by simp) _⟩⟩
    rw [show foldD d (max (maxX pre) d) (ts.take 0) = max (maxX pre) d from rfl]
    first
          | exact HR1.out.set _
          | (rw [Int.max_eq_left (by omega)]; exact HR1.out.set _)
          | (rw [Int.max_eq_right (by omega)]; exact HR1.out.set _)
   case round =>
    obtain ⟨j,hj,rfl,HQ⟩ := hrel
    obtain ⟨bq,kq,pq,Bq⟩ := HQ.out
    by_cases hlt : j < ts.length
    ·rcases HTY.out with e | ⟨b,off,e,hrow⟩
     ·rw [e] at hlt
      exact absurd hlt (Nat.not_lt_zero _)
     subst e
     obtain ⟨x0,x1,x2,x3,x4,q0,q1,q2,q3,q4,ht⟩ := hrow.at hlt
     have q0 := cell_below Bq q0
     have q1 := cell_below Bq q1
     have q2 := cell_below Bq q2
     have q3 := cell_below Bq q3
     have q4 := cell_below Bq q4
     obtain ⟨k',n',nm',a',l',cc',a'',l'',cc'',rfl,rfl,rfl,rfl,rfl⟩ := ht.form
     have hnk : nodesT (kAt ts j) ≤ 1000000 := by
      have h1 := HNS.out
      have h2 := nodesL_part hlt
      simp only [nodesE] at h1
      omega
     have HC : Asd (∀ X : World,Below wr.heap.size wr X -> Calls Try.prog 36 #[.agg #[.int .i64 k',.int .i64 n',.string nm',.slice a' l' cc',.slice a'' l'' cc'']] X fun e w' => e = .returned (.int .i64 (depthT (kAt ts j))) ∧ Below X.heap.size X w') :=
      ⟨fun X hX => pdepth_any (kAt ts j) _ _ _ _ _ X (ht.mono (Bq.trans (hX.mono Bq.size))) hnk⟩
     have cq := bq.cell
     have fq := bq.frozen
     have cq' := (bq.alloc (.cells #[.int .i64 k',.int .i64 n',.string nm',.slice a' l' cc',.slice a'' l'' cc''] 38)).cell
     have hBa : Asd (Below wr.heap.size wr (wr.alloc (.cells #[.int .i64 k',.int .i64 n',.string nm',.slice a' l' cc',.slice a'' l'' cc''] 38))) := ⟨(Below.refl _ _).alloc (Nat.le_refl _) _⟩
     have HBQ := Asd.mk bq
     have HKQ := Asd.mk kq
     have HPQ := Asd.mk pq
     have HBBQ := Asd.mk Bq
     clear bq kq pq Bq ht hrow HQ
     gi_wp2
     gi_region_with_o (gi_at_call 36;refine (CallsIn.inRound l (callsIn_wide.2 (HC.out _ (below_drew hBa.out)))).mono ?_;rintro e w2 ⟨rfl,hb2⟩;have cR := (Boxed.below (boxed_drew (HBQ.out.alloc _)) hb2).cell;have fR := (Boxed.below (boxed_drew (HBQ.out.alloc _)) hb2).frozen)
     all_goals gi_wp2
     all_goals
      have hs1 : w.heap.size ≤ wr.heap.size := HBBQ.out.size
      have hs2 : w.heap.size ≤ (wr.alloc (.cells #[.int .i64 k',.int .i64 n',.string nm',.slice a' l' cc',.slice a'' l'' cc''] 38)).drew.heap.size := Nat.le_trans hs1 (below_drew hBa.out).size
      refine ⟨⟨j + 1,by omega,by simp,⟨?_,HKQ.out.trans ((keepsFrom_below (below_drew hBa.out)).trans ((keepsFrom_below hb2).trans ((KeepsOthers.setCell _ _ _).from _))),kpE_t HPQ.out (kpE_t (KpE.of_below hs1 (below_drew hBa.out)) (kpE_t (KpE.of_below hs2 hb2) (KpE.store (S := fun k => k = w.heap.size + 1) _ rfl (by omega) _))),((HBBQ.out.trans ((below_drew hBa.out).mono hs1)).trans (hb2.mono hs2)).setCell (p := ⟨w.heap.size + 1,0,none⟩) (by simp) _⟩⟩,by simp [intOf];omega⟩
      rw [foldD_step hlt]
      first
              | exact (Boxed.below (boxed_drew (HBQ.out.alloc _)) hb2).set _
              | (rw [Int.max_eq_left (by omega)]; exact (Boxed.below (boxed_drew (HBQ.out.alloc _)) hb2).set _)
              | (rw [Int.max_eq_right (by omega)]; exact (Boxed.below (boxed_drew (HBQ.out.alloc _)) hb2).set _)
    ·have : j = ts.length := by omega
     subst this
     gi_wp2
     refine ⟨kq,pq,?_,Bq⟩
     rw [maxX_snoc]
     rw [List.take_length] at bq
     exact bq
 case done =>
  rintro D xs W hD hxs ⟨bS1,hB1⟩ hK
  have cS := bS1.cell
  gi_wp2
  refine ⟨by simp,.inl ⟨_,_,rfl,run_takeDeferred hK,?_⟩⟩
  exact ⟨_,results_tmp rfl _ _ _,by rw [maxX_keys hxs HT.out.2.1];rfl,hB1.trans (belowK_b (w := w) (Nat.le_refl _) W D _ _ (by omega) hK rfl rfl)⟩
 case stop =>
  rintro D c pre W _ _ h _
  exact h.elim
end Go.Proofs.Ytglefhgcfijiaaa

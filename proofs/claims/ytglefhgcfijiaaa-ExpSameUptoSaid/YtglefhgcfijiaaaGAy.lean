/- limbecklaw14.Much, Binds and All over data. -/
import Derived.Test.YtglefhgcfijiaaaGAi
import Derived.Test.YtglefhgcfijiaaaGAl
set_option linter.unusedSimpArgs false
set_option linter.unusedVariables false
set_option maxRecDepth 1000000
set_option maxHeartbeats 40000000
namespace Go.Proofs.Ytglefhgcfijiaaa
open Go.RowKit Pv
mutual
def muchE : Ex7 -> Nat
 | .mk _ _ nm _ ts ls ks => muchEL (muchL (muchA nm ls) ts) ks
def muchEL : Nat -> List Ex7 -> Nat
 | n,[] => n
 | n,t :: r => if n < 3000 then muchEL (n + muchE t) r else n
end
mutual
theorem muchE_le : ∀ t : Ex7,muchE t ≤ szE t
 | .mk k n nm hs ts ls ks => by
  have h1 := muchEL_le (muchL (muchA nm ls) ts) ks
  have h2 := muchL_le (muchA nm ls) ts
  have h3 := eighths_take ls 1000
  simp only [muchE,szE,muchA] at *
  omega
theorem muchEL_le : ∀ (n : Nat) (ks : List Ex7),muchEL n ks ≤ n + szEL ks
 | n,[] => by simp [muchEL,szEL]
 | n,t :: r => by
  have h1 := muchE_le t
  have h2 := muchEL_le (n + muchE t) r
  simp only [muchEL,szEL]
  split <;> omega
end
theorem muchEL_ge : ∀ (n : Nat) (ks : List Ex7),n ≤ muchEL n ks
 | n,[] => Nat.le_refl _
 | n,t :: r => by
  have h2 := muchEL_ge (n + muchE t) r
  simp only [muchEL]
  split <;> omega
mutual
theorem muchE_nodes : ∀ t : Ex7,muchE t < 3000 -> nodesE t ≤ muchE t
 | .mk k n nm hs ts ls ks,h => by
  simp only [muchE,nodesE] at *
  have h1 := muchEL_nodes _ ks h
  have h2 := muchEL_ge (muchL (muchA nm ls) ts) ks
  have h3 := muchL_nodes (muchA nm ls) ts (by omega)
  have : 1 ≤ muchA nm ls := by unfold muchA;omega
  omega
theorem muchEL_nodes : ∀ (n : Nat) (ks : List Ex7),muchEL n ks < 3000 -> n + nodesEL ks ≤ muchEL n ks
 | n,[],_ => by simp [muchEL,nodesEL]
 | n,t :: r,h => by
  simp only [muchEL,nodesEL] at *
  have hn := muchEL_ge n (t :: r)
  simp only [muchEL] at hn
  by_cases h3 : n < 3000
  ·rw [if_pos h3] at h ⊢
   have h1 := muchEL_ge (n + muchE t) r
   have h2 := muchE_nodes t (by omega)
   have h4 := muchEL_nodes (n + muchE t) r h
   omega
  ·rw [if_neg h3] at h
   omega
end
theorem muchL_step {n : Nat} {ts : List Ty5} {i : Nat} {t : Ty5} (h : ts[i]? = some t) (h3 : n < 3000) : muchL n (ts.drop i) = muchL (n + much t) (ts.drop (i + 1)) := by
 obtain ⟨h1,h2⟩ := List.getElem?_eq_some_iff.1 h
 rw [List.drop_eq_getElem_cons h1,h2]
 simp only [muchL]
 rw [if_pos h3]
theorem muchEL_step {n : Nat} {ks : List Ex7} {i : Nat} {t : Ex7} (h : ks[i]? = some t) (h3 : n < 3000) : muchEL n (ks.drop i) = muchEL (n + muchE t) (ks.drop (i + 1)) := by
 obtain ⟨h1,h2⟩ := List.getElem?_eq_some_iff.1 h
 rw [List.drop_eq_getElem_cons h1,h2]
 simp only [muchEL]
 rw [if_pos h3]
theorem muchEL_stop {n : Nat} (ks : List Ex7) (h : ¬ n < 3000) : muchEL n ks = n := by
 cases ks
 ·rfl
 ·simp only [muchEL]
  rw [if_neg h]
theorem eighths_next {ls : List ByteArray} {j : Nat} {s : ByteArray} (h : ls[j]? = some s) : eighths (ls.take (j + 1)) = eighths (ls.take j) + s.size / 8 := by
 obtain ⟨h1,h2⟩ := List.getElem?_eq_some_iff.1 h
 rw [List.take_succ_eq_append_getElem h1,h2,eighths_app]
 simp [eighths]
theorem muchE_run (k n : Int) (nm : ByteArray) (hs : Bool) (ts : List Ty5) (ls : List ByteArray) (ks : List Ex7) (ho : okE (.mk k n nm hs ts ls ks)) (hz : szE (.mk k n nm hs ts ls ks) ≤ 1048576)
  (hc : ∀ t ∈ ks,∀ M : Int,0 ≤ M -> M.toNat = muchE t -> CP (TT ()) 6 [exD t] (· = .raw (.int .i64 M)))
  (Q : D -> H -> Prop) (hQ : ∀ (z : Int) h',0 ≤ z -> z.toNat = muchE (.mk k n nm hs ts ls ks) -> Q (.raw (.int .i64 z)) h') : wfun TT 6 [exD (.mk k n nm hs ts ls ks)] [] Q := by
 have hTl := tys_len ts
 have hTi := tys_idb ts
 have hTat := fun i => tys_at (ks := ts) (i := i)
 have hKl := exs_len ks
 have hKi := exs_idb ks
 have hKat := fun i => exs_at (ks := ks) (i := i)
 have hLi := strs_idb ls
 have hLl : (ls.map strD).length = ls.length := by simp
 have hLat := fun i => strs_at (ls := ls) (i := i)
 have hto := ho.2.1
 have hbig : nm.size ≤ 1048576 ∧ ls.length ≤ 1048576 ∧ (∀ j,eighths (ls.take j) ≤ 1048576) ∧ ts.length ≤ 1048576 ∧ ks.length ≤ 1048576 ∧ (∀ t ∈ ts,szT t ≤ 1048576) ∧ (∀ t ∈ ks,szE t ≤ 1048576) ∧ ∀ s ∈ ls,s.size ≤ 1048576 := by
  simp only [szE] at hz
  have h1 := eighths_le ls
  have h2 := eighths_take ls
  have h3 : ∀ l : List Ty5,l.length ≤ szL l := fun l => by
   induction l with
   | nil => exact Nat.le_refl _
   | cons t r ih =>
    have := szT_pos t
    simp only [szL,List.length_cons]
    omega
  have h4 : ∀ l : List Ex7,l.length ≤ szEL l := fun l => by
   induction l with
   | nil => exact Nat.le_refl _
   | cons t r ih =>
    have := szE_pos t
    simp only [szEL,List.length_cons]
    omega
  have h5 : ∀ (l : List ByteArray) (s : ByteArray),s ∈ l -> s.size ≤ szS l := fun l => by
   induction l with
   | nil => intro s h;cases h
   | cons x r ih =>
    intro s h
    simp only [szS]
    rcases List.mem_cons.1 h with rfl | h
    ·omega
    ·have := ih s h
     omega
  have := h3 ts
  have := h4 ks
  refine ⟨by omega,by omega,fun j => by have := h2 j;omega,by omega,by omega,fun t ht => by have := szL_mem ht;omega,fun t ht => by have := szEL_mem ht;omega,fun s hs => by have := h5 ls s hs;omega⟩
 obtain ⟨hb1,hb2,hb3,hb4,hb5,hb6,hb7,hb8⟩ := hbig
 have hQ : ∀ (z : Int) h',0 ≤ z -> z.toNat = muchEL (muchL (1 + nm.size / 8 + ls.length + eighths (ls.take 1000)) ts) ks -> Q (.raw (.int .i64 z)) h' := hQ
 obtain ⟨zn,hzn,hzn0,hzn1⟩ : ∃ z : Int,(nm.size : Int) = z ∧ 0 ≤ z ∧ z.toNat = nm.size := ⟨_,rfl,by omega,by omega⟩
 clear ho hz
 simp only [exD]
 generalize ls.map strD = LS at hLi hLl hLat ⊢
 generalize tysD ts = TS at hTl hTi hTat ⊢
 generalize exsD ks = KS at hKl hKi hKat ⊢
 cbv
 (repeat'((first|(apply zS;kernel_rfl)|(apply zD;decide +kernel)|(apply zE;decide +kernel)|(apply zF;decide +kernel)|(apply zL;decide +kernel)|(apply zM;decide +kernel)|(apply zN;intros)|(apply zO;intros)|(apply zT;omega)|(apply zU;omega)|(apply zP;omega;intros)|(apply zQ;omega;intros)|apply zR);cbv))
 refine lenq_str hzn ?_
 cbv
 (repeat'((first|(apply zS;kernel_rfl)|(apply zD;decide +kernel)|(apply zE;decide +kernel)|(apply zF;decide +kernel)|(apply zL;decide +kernel)|(apply zM;decide +kernel)|(apply zN;intros)|(apply zO;intros)|(apply zT;omega)|(apply zU;omega)|(apply zP;omega;intros)|(apply zQ;omega;intros)|apply zR);cbv))
 refine quo_eight (by omega) fun q hq => ?_
 cbv
 (repeat'((first|(apply zS;kernel_rfl)|(apply zD;decide +kernel)|(apply zE;decide +kernel)|(apply zF;decide +kernel)|(apply zL;decide +kernel)|(apply zM;decide +kernel)|(apply zN;intros)|(apply zO;intros)|(apply zT;omega)|(apply zU;omega)|(apply zP;omega;intros)|(apply zQ;omega;intros)|apply zR);cbv))
 rename_i a1 ha1 y1 hy0 hy1 a2 ha2
 have hst : 0 ≤ a2 ∧ a2.toNat = 1 + nm.size / 8 + ls.length + eighths (ls.take 0) := by
  simp only [List.take_zero,eighths]
  omega
 refine LoopK.put (X := Int × Int) (fun x => [(3,.raw (.int .i64 x.2)),(4,.raw (.int .i64 x.1))]) (fun _ => []) (fun x => ls.length - x.1.toNat)
  (fun x => 0 ≤ x.1 ∧ x.1.toNat ≤ ls.length ∧ x.1.toNat ≤ 1000 ∧ 0 ≤ x.2 ∧ x.2.toNat = 1 + nm.size / 8 + ls.length + eighths (ls.take x.1.toNat)) (0,a2) ⟨by simp,by simp,by simp,hst.1,hst.2⟩ rfl rfl ?_
 rintro ⟨i,z⟩ N ⟨h0,hi,h10,hz0,hz⟩ hN
 simp only at h0 hi h10 hz0 hz hN ⊢
 have hzb : z ≤ 4000000 := by have := hb3 i.toNat;omega
 have hend : ¬ (i.toNat < ls.length ∧ i.toNat < 1000) -> z.toNat = 1 + nm.size / 8 + ls.length + eighths (ls.take 1000) := fun h => by
  rw [hz]
  congr 1
  by_cases h1 : i.toNat = 1000
  ·rw [h1]
  ·rw [List.take_of_length_le (by omega),List.take_of_length_le (by omega)]
 by_cases hgo : i.toNat < ls.length ∧ i.toNat < 1000
 ·cbv
  (repeat'((first|(apply zS;kernel_rfl)|(apply zD;decide +kernel)|(apply zE;decide +kernel)|(apply zF;decide +kernel)|(apply zL;decide +kernel)|(apply zM;decide +kernel)|(apply zN;intros)|(apply zO;intros)|(apply zT;omega)|(apply zU;omega)|(apply zP;omega;intros)|(apply zQ;omega;intros)|apply zR|(apply yA;omega)|(apply yB;omega)|(apply yC;omega)|(apply yD;omega)|(apply yE;omega)|(apply yF;omega)|(apply yG;omega)|(apply yH;omega)|(apply yI;omega)|(apply yJ;omega)|(apply yK;omega)|(apply yL;omega)|fail);cbv))
  obtain ⟨s,hs1,hV⟩ := hLat i.toNat (by omega)
  have hsz := hb8 s (List.mem_of_getElem? hs1)
  have hnx := eighths_next hs1
  have hnext : ∀ (u r : Int),r = i + 1 -> u = z + (s.size : Int) / 8 -> 0 ≤ u ∧ u.toNat = 1 + nm.size / 8 + ls.length + eighths (ls.take r.toNat) := fun u r hr hu => by
   rw [show r.toNat = i.toNat + 1 by omega,hnx]
   omega
  obtain ⟨zs,hzs,hzs0,hzs1⟩ : ∃ z : Int,(s.size : Int) = z ∧ 0 ≤ z ∧ z ≤ 1048576 := ⟨_,rfl,by omega,by omega⟩
  rw [hzs] at hnext
  unfold strD at hV
  clear hend hz hQ hc hnx
  refine IdxK.intro h0 hV ?_
  cbv
  (repeat'((first|(apply zS;kernel_rfl)|(apply zD;decide +kernel)|(apply zE;decide +kernel)|(apply zF;decide +kernel)|(apply zL;decide +kernel)|(apply zM;decide +kernel)|(apply zN;intros)|(apply zO;intros)|(apply zT;omega)|(apply zU;omega)|(apply zP;omega;intros)|(apply zQ;omega;intros)|apply zR);cbv))
  refine lenq_str hzs ?_
  cbv
  (repeat'((first|(apply zS;kernel_rfl)|(apply zD;decide +kernel)|(apply zE;decide +kernel)|(apply zF;decide +kernel)|(apply zL;decide +kernel)|(apply zM;decide +kernel)|(apply zN;intros)|(apply zO;intros)|(apply zT;omega)|(apply zU;omega)|(apply zP;omega;intros)|(apply zQ;omega;intros)|apply zR);cbv))
  refine quo_eight (by omega) fun q hq => ?_
  cbv
  (repeat'((first|(apply zS;kernel_rfl)|(apply zD;decide +kernel)|(apply zE;decide +kernel)|(apply zF;decide +kernel)|(apply zL;decide +kernel)|(apply zM;decide +kernel)|(apply zN;intros)|(apply zO;intros)|(apply zT;omega)|(apply zU;omega)|(apply zP;omega;intros)|(apply zQ;omega;intros)|apply zR);cbv))
  rename_i u hu r hr
  have hnext := hnext u r hr (by omega)
  exact RoundK.next (r,u) ⟨by omega,by omega,by omega,hnext.1,hnext.2⟩ (by omega) rfl rfl
 have hend := hend hgo
 obtain ⟨S,hS⟩ : ∃ S,S = 1 + nm.size / 8 + ls.length + eighths (ls.take 1000) := ⟨_,rfl⟩
 rw [← hS] at hend hQ
 have hSb : S ≤ 4000000 := by have := hb3 1000;omega
 have hloop : ¬ (i.toNat < ls.length) ∨ (i.toNat < ls.length ∧ ¬ i.toNat < 1000) := by omega
 clear hz hgo hS
 rcases hloop with hg | ⟨hg,hg2⟩
 all_goals
  cbv
  (repeat'((first|(apply zS;kernel_rfl)|(apply zD;decide +kernel)|(apply zE;decide +kernel)|(apply zF;decide +kernel)|(apply zL;decide +kernel)|(apply zM;decide +kernel)|(apply zN;intros)|(apply zO;intros)|(apply zT;omega)|(apply zU;omega)|(apply zP;omega;intros)|(apply zQ;omega;intros)|apply zR|(apply yA;omega)|(apply yB;omega)|(apply yC;omega)|(apply yD;omega)|(apply yE;omega)|(apply yF;omega)|(apply yG;omega)|(apply yH;omega)|(apply yI;omega)|(apply yJ;omega)|(apply yK;omega)|(apply yL;omega)|fail);cbv))
  obtain ⟨z1,hz1,hz1'⟩ : ∃ z1 : Int,z1 = z ∧ 0 ≤ z1 := ⟨z,rfl,hz0⟩
  rw [← hz1]
  rw [← hz1] at hend
  refine LoopK.put (X := Int × Int) (fun x => [(3,.raw (.int .i64 x.2)),(5,.raw (.int .i64 x.1))]) (fun _ => []) (fun x => ts.length - x.1.toNat)
   (fun x => 0 ≤ x.1 ∧ x.1.toNat ≤ ts.length ∧ 0 ≤ x.2 ∧ x.2.toNat ≤ 4000000 ∧ muchL x.2.toNat (ts.drop x.1.toNat) = muchL S ts) (0,z1) ⟨by simp,by simp,hz1',by simp only;omega,by simp [hend]⟩ rfl rfl ?_
  rintro ⟨i,z⟩ N ⟨h0,hi,hz0,hzb,hz⟩ hN
  simp only at h0 hi hz0 hzb hz hN ⊢
  by_cases hgo : i.toNat < ts.length ∧ z < 3000
  ·cbv
   (repeat'((first|(apply zS;kernel_rfl)|(apply zD;decide +kernel)|(apply zE;decide +kernel)|(apply zF;decide +kernel)|(apply zL;decide +kernel)|(apply zM;decide +kernel)|(apply zN;intros)|(apply zO;intros)|(apply zT;omega)|(apply zU;omega)|(apply zP;omega;intros)|(apply zQ;omega;intros)|apply zR|(apply yA;omega)|(apply yB;omega)|(apply yC;omega)|(apply yD;omega)|(apply yE;omega)|(apply yF;omega)|(apply yG;omega)|(apply yH;omega)|(apply yI;omega)|(apply yJ;omega)|(apply yK;omega)|(apply yL;omega)|fail);cbv))
   obtain ⟨t,ht,hT⟩ := hTat i.toNat (by omega)
   have hmem := List.mem_of_getElem? ht
   have hsz := hb6 t hmem
   have hml := much_le t
   have cN := muchq_cp t (okL_get hto t hmem) hsz
   obtain ⟨M,hM0,hMb,hM⟩ : ∃ M : Int,0 ≤ M ∧ M ≤ 1048576 ∧ M.toNat = much t := ⟨((much t : Nat) : Int),by omega,by omega,by omega⟩
   rw [show ((much t : Nat) : Int) = M by omega] at cN
   have hpt := ty_pure t
   have hstp := muchL_step ht (n := z.toNat) (by omega)
   have hnext : ∀ u r : Int,u = z + M -> r = i + 1 -> 0 ≤ u ∧ u.toNat ≤ 4000000 ∧ muchL u.toNat (ts.drop r.toNat) = muchL S ts := fun u r hu hr => by
    refine ⟨by omega,by omega,?_⟩
    rw [show r.toNat = i.toNat + 1 by omega,show u.toNat = z.toNat + much t by omega,← hstp]
    exact hz
   obtain ⟨k0,n0,m0,L0,K0,f0,_,_⟩ := c4_node t
   rw [f0] at cN hpt hT
   clear f0 hstp hM hz hQ hc hend
   refine IdxK.intro h0 hT ?_
   cbv
   (repeat'((first|(apply zS;kernel_rfl)|(apply zD;decide +kernel)|(apply zE;decide +kernel)|(apply zF;decide +kernel)|(apply zL;decide +kernel)|(apply zM;decide +kernel)|(apply zN;intros)|(apply zO;intros)|(apply zT;omega)|(apply zU;omega)|(apply zP;omega;intros)|(apply zQ;omega;intros)|apply zR);cbv))
   refine .one cN (cons_pure hpt rfl) rfl ?_
   cbv
   (repeat'((first|(apply zS;kernel_rfl)|(apply zD;decide +kernel)|(apply zE;decide +kernel)|(apply zF;decide +kernel)|(apply zL;decide +kernel)|(apply zM;decide +kernel)|(apply zN;intros)|(apply zO;intros)|(apply zT;omega)|(apply zU;omega)|(apply zP;omega;intros)|(apply zQ;omega;intros)|apply zR);cbv))
   rename_i u hu r hr
   have hnext := hnext u r hu hr
   exact RoundK.next (r,u) ⟨by omega,by omega,hnext.1,hnext.2.1,hnext.2.2⟩ (by omega) rfl rfl
  have hend2 : z.toNat = muchL S ts := by
   rw [← hz]
   by_cases h1 : z.toNat < 3000
   ·rw [List.drop_eq_nil_of_le (by omega)]
    simp [muchL]
   ·rw [muchL_stop _ h1]
  obtain ⟨S2,hS2⟩ : ∃ S2,S2 = muchL S ts := ⟨_,rfl⟩
  rw [← hS2] at hend2
  have hQ : ∀ (z : Int) h',0 ≤ z -> z.toNat = muchEL S2 ks -> Q (.raw (.int .i64 z)) h' := by rw [hS2];exact hQ
  have hloop : ¬ (i.toNat < ts.length) ∨ (i.toNat < ts.length ∧ ¬ z < 3000) := by omega
  clear hz hgo hS2 hend hz1
  rcases hloop with hg3 | ⟨hg3,hg4⟩
  all_goals
   cbv
   (repeat'((first|(apply zS;kernel_rfl)|(apply zD;decide +kernel)|(apply zE;decide +kernel)|(apply zF;decide +kernel)|(apply zL;decide +kernel)|(apply zM;decide +kernel)|(apply zN;intros)|(apply zO;intros)|(apply zT;omega)|(apply zU;omega)|(apply zP;omega;intros)|(apply zQ;omega;intros)|apply zR|(apply yA;omega)|(apply yB;omega)|(apply yC;omega)|(apply yD;omega)|(apply yE;omega)|(apply yF;omega)|(apply yG;omega)|(apply yH;omega)|(apply yI;omega)|(apply yJ;omega)|(apply yK;omega)|(apply yL;omega)|fail);cbv))
   obtain ⟨z2,hz2,hz2'⟩ : ∃ z1 : Int,z1 = z ∧ 0 ≤ z1 := ⟨z,rfl,hz0⟩
   rw [← hz2]
   rw [← hz2] at hend2
   refine LoopK.put (X := Int × Int) (fun x => [(3,.raw (.int .i64 x.2)),(6,.raw (.int .i64 x.1))]) (fun _ => []) (fun x => ks.length - x.1.toNat)
    (fun x => 0 ≤ x.1 ∧ x.1.toNat ≤ ks.length ∧ 0 ≤ x.2 ∧ x.2.toNat ≤ 4000000 ∧ muchEL x.2.toNat (ks.drop x.1.toNat) = muchEL S2 ks) (0,z2) ⟨by simp,by simp,hz2',by simp only;omega,by simp [hend2]⟩ rfl rfl ?_
   rintro ⟨i,z⟩ N ⟨h0,hi,hz0,hzb,hz⟩ hN
   simp only at h0 hi hz0 hzb hz hN ⊢
   by_cases hgo : i.toNat < ks.length ∧ z < 3000
   ·cbv
    (repeat'((first|(apply zS;kernel_rfl)|(apply zD;decide +kernel)|(apply zE;decide +kernel)|(apply zF;decide +kernel)|(apply zL;decide +kernel)|(apply zM;decide +kernel)|(apply zN;intros)|(apply zO;intros)|(apply zT;omega)|(apply zU;omega)|(apply zP;omega;intros)|(apply zQ;omega;intros)|apply zR|(apply yA;omega)|(apply yB;omega)|(apply yC;omega)|(apply yD;omega)|(apply yE;omega)|(apply yF;omega)|(apply yG;omega)|(apply yH;omega)|(apply yI;omega)|(apply yJ;omega)|(apply yK;omega)|(apply yL;omega)|fail);cbv))
    obtain ⟨t,ht,hT⟩ := hKat i.toNat (by omega)
    have hmem := List.mem_of_getElem? ht
    have hsz := hb7 t hmem
    have hml := muchE_le t
    obtain ⟨M,hM0,hMb,hM⟩ : ∃ M : Int,0 ≤ M ∧ M ≤ 1048576 ∧ M.toNat = muchE t := ⟨((muchE t : Nat) : Int),by omega,by omega,by omega⟩
    have cN := hc t hmem M hM0 hM
    have hpt := ex_pure t
    have hstp := muchEL_step ht (n := z.toNat) (by omega)
    have hnext : ∀ u r : Int,u = z + M -> r = i + 1 -> 0 ≤ u ∧ u.toNat ≤ 4000000 ∧ muchEL u.toNat (ks.drop r.toNat) = muchEL S2 ks := fun u r hu hr => by
     refine ⟨by omega,by omega,?_⟩
     rw [show r.toNat = i.toNat + 1 by omega,show u.toNat = z.toNat + muchE t by omega,← hstp]
     exact hz
    obtain ⟨k0,n0,m0,b0,T0,L0,K0,f0,_,_,_⟩ := ex_node t
    rw [f0] at cN hpt hT
    clear f0 hstp hM hz hQ hc
    refine IdxK.intro h0 hT ?_
    cbv
    (repeat'((first|(apply zS;kernel_rfl)|(apply zD;decide +kernel)|(apply zE;decide +kernel)|(apply zF;decide +kernel)|(apply zL;decide +kernel)|(apply zM;decide +kernel)|(apply zN;intros)|(apply zO;intros)|(apply zT;omega)|(apply zU;omega)|(apply zP;omega;intros)|(apply zQ;omega;intros)|apply zR);cbv))
    refine .one cN (cons_pure hpt rfl) rfl ?_
    cbv
    (repeat'((first|(apply zS;kernel_rfl)|(apply zD;decide +kernel)|(apply zE;decide +kernel)|(apply zF;decide +kernel)|(apply zL;decide +kernel)|(apply zM;decide +kernel)|(apply zN;intros)|(apply zO;intros)|(apply zT;omega)|(apply zU;omega)|(apply zP;omega;intros)|(apply zQ;omega;intros)|apply zR);cbv))
    rename_i u hu r hr
    have hnext := hnext u r hu hr
    exact RoundK.next (r,u) ⟨by omega,by omega,hnext.1,hnext.2.1,hnext.2.2⟩ (by omega) rfl rfl
   have hend3 : z.toNat = muchEL S2 ks := by
    rw [← hz]
    by_cases h1 : z.toNat < 3000
    ·rw [List.drop_eq_nil_of_le (by omega)]
     simp [muchEL]
    ·rw [muchEL_stop _ h1]
   have hloop : ¬ (i.toNat < ks.length) ∨ (i.toNat < ks.length ∧ ¬ z < 3000) := by omega
   have hQ := fun h' => hQ z h' hz0 hend3
   clear hz hgo
   rcases hloop with hg5 | ⟨hg5,hg6⟩
   all_goals
    cbv
    (repeat'((first|(apply zS;kernel_rfl)|(apply zD;decide +kernel)|(apply zE;decide +kernel)|(apply zF;decide +kernel)|(apply zL;decide +kernel)|(apply zM;decide +kernel)|(apply zN;intros)|(apply zO;intros)|(apply zT;omega)|(apply zU;omega)|(apply zP;omega;intros)|(apply zQ;omega;intros)|apply zR|(apply yA;omega)|(apply yB;omega)|(apply yC;omega)|(apply yD;omega)|(apply yE;omega)|(apply yF;omega)|(apply yG;omega)|(apply yH;omega)|(apply yI;omega)|(apply yJ;omega)|(apply yK;omega)|(apply yL;omega)|fail);cbv))
    exact ⟨hQ _⟩
theorem muchE_cp : ∀ e : Ex7,okE e -> szE e ≤ 1048576 -> ∀ M : Int,0 ≤ M -> M.toNat = muchE e -> CP (TT ()) 6 [exD e] (· = .raw (.int .i64 M)) := by
 refine ex_ind fun k n nm hs ts ls ks ih ho hz M hM0 hM => c4_run fun Q hQ => muchE_run k n nm hs ts ls ks ho hz (fun t ht => ih t ht (okEL_get ho.2.2.2 t ht) ?_) Q fun z h' h0 h1 => ?_
 ·have := szEL_mem ht
  simp only [szE] at hz
  omega
 ·obtain rfl : z = M := by omega
  exact hQ h'
end Go.Proofs.Ytglefhgcfijiaaa

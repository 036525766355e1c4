/- Parts of the proof: ExS, TyH, TySnd. -/
import Derived.Test.YtglefhgcfijiaaaGAi
import Derived.Test.YtglefhgcfijiaaaGAj
import Derived.Test.YtglefhgcfijiaaaGAh
import Derived.Test.YtglefhgcfijiaaaGAg
import Derived.Test.YtglefhgcfijiaaaGAf
set_option linter.unusedSimpArgs false
set_option linter.unusedVariables false
set_option maxRecDepth 1000000
set_option maxHeartbeats 40000000
namespace Go.Proofs.Ytglefhgcfijiaaa
open Go.RowKit Pv
theorem CP.argE {k : FuncId} {ds es : List D} {Q : D -> Prop} (c : CP (TT ()) k es Q) (hw : WkL ds es) : CP (TT ()) k ds Q :=
 ⟨c.1,fun S w args hS r => c.2 S w args hS (hw _ _ _ r)⟩
abbrev fnE (f : FuncId) : D := .raw (.func (.func f) #[] #[])
theorem fnE_wk (f : FuncId) : Wk (fnE f) (.fn (.func f) [] []) := fun C w v h => by
 simp only [Pv.Rd] at h
 subst h
 exact ⟨[],[],rfl,rfl,rfl⟩
theorem psame14_cp (a b : Ty5) (ha : okT a) (hb : okT b) : CP (TT ()) 46 [tyD a,tyD b] (· = .raw (.bool (sameT a b))) :=
 cp_raw (callable_at Try.func46 (by kernel_rfl) rfl) fun S w args r => by
  obtain ⟨v,v',rfl,h,h'⟩ := rdL_two r
  obtain ⟨u0,u1,u2,u3,u4,rfl,hA⟩ := ty_in a ha h
  obtain ⟨v0,v1,v2,v3,v4,rfl,hB⟩ := ty_in b hb h'
  exact psameTy_any _ a b _ _ _ _ _ _ _ _ _ _ w (Nat.le_refl _) hA hB
theorem pequal14_cp (a b : List ByteArray) (ha : ∀ s ∈ a,s.size ≤ maxLen) (hb : ∀ s ∈ b,s.size ≤ maxLen) : CP (TT ()) 47 [.sl none 1 (a.map strD),.sl none 1 (b.map strD)] (· = .raw (.bool (eqL a b))) :=
 cp_raw (callable_at Try.func47 (by kernel_rfl) rfl) fun S w args r => by
  obtain ⟨v,v',rfl,h,h'⟩ := rdL_two r
  exact equalS_any v v' a b w (strs_in h ha) (strs_in h' hb)
def al2 {X : Type} (p : X -> X -> Bool) : List X -> List X -> Bool
 | [],[] => true
 | t :: r,u :: q => p t u && al2 p r q
 | [],_ :: _ => false
 | _ :: _,[] => false
theorem al2_len {X : Type} {p : X -> X -> Bool} : ∀ {a b : List X},al2 p a b = true -> a.length = b.length
 | [],[],_ => rfl
 | _ :: r,_ :: q,h => by
  simp only [al2,Bool.and_eq_true] at h
  simp [al2_len h.2]
theorem al2_at {X : Type} {p : X -> X -> Bool} : ∀ {a b : List X},a.length = b.length -> (al2 p a b = true ↔ ∀ (j : Nat) (x y : X),a[j]? = some x -> b[j]? = some y -> p x y = true)
 | [],[],_ => ⟨fun _ j x y h => by simp at h,fun _ => rfl⟩
 | t :: r,u :: q,hl => by
  simp only [al2,Bool.and_eq_true]
  rw [al2_at (a := r) (b := q) (by simpa using hl)]
  constructor
  ·rintro ⟨h1,h2⟩ j x y hx hy
   cases j with
   | zero => simp at hx hy;subst hx hy;exact h1
   | succ j => exact h2 j x y (by simpa using hx) (by simpa using hy)
  ·intro h
   exact ⟨h 0 t u rfl rfl,fun j x y hx hy => h (j + 1) x y (by simpa using hx) (by simpa using hy)⟩
 | [],_ :: _,h => by simp at h
 | _ :: _,[],h => by simp at h
theorem sameL_al : ∀ (a b : List Ty5),sameL a b = al2 sameT a b
 | [],[] => rfl
 | x :: r,y :: q => by simp only [sameL,al2,sameL_al r q]
 | [],_ :: _ => rfl
 | _ :: _,[] => rfl
theorem sameEL_al : ∀ (a b : List Ex7),sameEL a b = al2 sameE a b
 | [],[] => rfl
 | x :: r,y :: q => by simp only [sameEL,al2,sameEL_al r q]
 | [],_ :: _ => rfl
 | _ :: _,[] => rfl
def sameP (p q : Bd) : Bool := decide (p.1 = q.1) && sameT p.2 q.2
theorem eqfT_run (f : FuncId) (p : Ty5 -> Ty5 -> Bool) (a b : List Ty5) (hl : a.length = b.length) (hks : a.length ≤ 9223372036854775807)
  (hc : ∀ t ∈ a,∀ u ∈ b,CP (TT ()) f [tyD t,tyD u] (· = .raw (.bool (p t u)))) (Q : D -> H -> Prop) (hQ : ∀ h',Q (.raw (.bool (al2 p a b))) h') :
  wfun TT 45 [.sl none 5 (tysD a),.sl none 5 (tysD b),.fn (.func f) [] []] [] Q := by
 have q2 : al2 p a b ≠ true -> ∀ h',Q (.raw (.bool false)) h' := fun h => by rw [Bool.eq_false_iff.2 h] at hQ;exact hQ
 have q3 : al2 p a b = true -> ∀ h',Q (.raw (.bool true)) h' := fun h => by rw [h] at hQ;exact hQ
 have hKl := tys_len a
 have hKl' := tys_len b
 have hKi := tys_idb a
 have hKi' := tys_idb b
 have hKat := fun i => tys_at (ks := a) (i := i)
 have hKat' := fun i => tys_at (ks := b) (i := i)
 clear hQ
 generalize tysD a = KS at hKl hKi hKat ⊢
 generalize tysD b = KS' at hKl' hKi' hKat' ⊢
 cbv
 (repeat'((first|(apply zS;kernel_rfl)|(apply zD;decide +kernel)|(apply zE;decide +kernel)|(apply zF;decide +kernel)|(apply zL;decide +kernel)|(apply zM;decide +kernel)|(apply zN;intros)|(apply zO;intros)|(apply zT;omega)|(apply zU;omega)|(apply zP;omega;intros)|(apply zQ;omega;intros)|apply zR);cbv))
 refine LoopK.put (X := Int) (fun x => [(17,.raw (.int .i64 x))]) (fun _ => []) (fun x => a.length - x.toNat) (fun x => 0 ≤ x ∧ x.toNat ≤ a.length ∧ ∀ (j : Nat) (t u : Ty5),j < x.toNat -> a[j]? = some t -> b[j]? = some u -> p t u = true) 0 ⟨by simp,by simp,fun j t u hj => absurd hj (Nat.not_lt_zero _)⟩ rfl rfl ?_
 rintro i N ⟨h0,hi,hj⟩ hN
 simp only at h0 hi hj hN ⊢
 cbv
 (repeat'((first|(apply zS;kernel_rfl)|(apply zD;decide +kernel)|(apply zE;decide +kernel)|(apply zF;decide +kernel)|(apply zL;decide +kernel)|(apply zM;decide +kernel)|(apply zN;intros)|(apply zO;intros)|(apply zT;omega)|(apply zU;omega)|(apply zP;omega;intros)|(apply zQ;omega;intros)|apply zR);cbv))
 refine BinK.lss ?_ ?_ <;> intro hlt <;> cbv <;> (repeat'((first|(apply zS;kernel_rfl)|(apply zD;decide +kernel)|(apply zE;decide +kernel)|(apply zF;decide +kernel)|(apply zL;decide +kernel)|(apply zM;decide +kernel)|(apply zN;intros)|(apply zO;intros)|(apply zT;omega)|(apply zU;omega)|(apply zP;omega;intros)|(apply zQ;omega;intros)|apply zR);cbv))
 ·obtain ⟨t,ht,hK⟩ := hKat i.toNat (by omega)
  obtain ⟨u,hu,hK'⟩ := hKat' i.toNat (by omega)
  have hct := hc t (List.mem_of_getElem? ht) u (List.mem_of_getElem? hu)
  have hpt := ty_pure t
  have hpu := ty_pure u
  have hno : p t u = false -> ∀ h',Q (.raw (.bool false)) h' := fun e => q2 fun h => by
   have := (al2_at hl).1 h i.toNat t u ht hu
   rw [e] at this
   cases this
  have hnext : p t u = true -> ∀ r : Int,r = i + 1 -> ∀ (j : Nat) (t u : Ty5),j < r.toNat -> a[j]? = some t -> b[j]? = some u -> p t u = true := fun e r hr j x y hjr hx hy => by
   by_cases hji : j = i.toNat
   ·rw [hji,ht] at hx
    rw [hji,hu] at hy
    cases hx
    cases hy
    exact e
   ·exact hj j x y (by omega) hx hy
  generalize p t u = bb at hct hno hnext
  obtain ⟨k0,n0,m0,L0,K0,f0,i0,j0⟩ := c4_node t
  obtain ⟨k1,n1,m1,L1,K1,f1,i1,j1⟩ := c4_node u
  rw [f0] at hct hpt hK
  rw [f1] at hct hpu hK'
  clear f0 f1 hc q2 q3 hj ht hu
  refine IdxK.intro h0 hK ?_
  cbv
  (repeat'((first|(apply zS;kernel_rfl)|(apply zD;decide +kernel)|(apply zE;decide +kernel)|(apply zF;decide +kernel)|(apply zL;decide +kernel)|(apply zM;decide +kernel)|(apply zN;intros)|(apply zO;intros)|(apply zT;omega)|(apply zU;omega)|(apply zP;omega;intros)|(apply zQ;omega;intros)|apply zR);cbv))
  refine IdxK.intro h0 hK' ?_
  cbv
  (repeat'((first|(apply zS;kernel_rfl)|(apply zD;decide +kernel)|(apply zE;decide +kernel)|(apply zF;decide +kernel)|(apply zL;decide +kernel)|(apply zM;decide +kernel)|(apply zN;intros)|(apply zO;intros)|(apply zT;omega)|(apply zU;omega)|(apply zP;omega;intros)|(apply zQ;omega;intros)|apply zR);cbv))
  refine .one hct (cons_pure hpt (cons_pure hpu rfl)) rfl ?_
  rcases bb with _ | _
  ·cbv
   (repeat'((first|(apply zS;kernel_rfl)|(apply zD;decide +kernel)|(apply zE;decide +kernel)|(apply zF;decide +kernel)|(apply zL;decide +kernel)|(apply zM;decide +kernel)|(apply zN;intros)|(apply zO;intros)|(apply zT;omega)|(apply zU;omega)|(apply zP;omega;intros)|(apply zQ;omega;intros)|apply zR);cbv))
   exact ⟨hno rfl _⟩
  have hnext := hnext rfl
  cbv
  (repeat'((first|(apply zS;kernel_rfl)|(apply zD;decide +kernel)|(apply zE;decide +kernel)|(apply zF;decide +kernel)|(apply zL;decide +kernel)|(apply zM;decide +kernel)|(apply zN;intros)|(apply zO;intros)|(apply zT;omega)|(apply zU;omega)|(apply zP;omega;intros)|(apply zQ;omega;intros)|apply zR);cbv))
  rename_i r hr
  have hnext := hnext r hr
  refine RoundK.forget r ⟨by omega,by omega,hnext⟩ (by omega) rfl rfl ?_ ?_
  ·simp [idbL,idb,hKi,hKi',i0,j0,i1,j1]
  ·simp [cellIdb,idbL,idb,hKi,hKi',i0,j0,i1,j1]
 ·have hLt : al2 p a b = true := (al2_at hl).2 fun j t u ht hu => hj j t u (by have := (List.getElem?_eq_some_iff.1 ht).1;omega) ht hu
  exact ⟨q3 hLt _⟩
theorem eqfT_off (f : FuncId) (a b : List Ty5) (hl : a.length ≠ b.length) (Q : D -> H -> Prop) (hQ : ∀ h',Q (.raw (.bool false)) h') : wfun TT 45 [.sl none 5 (tysD a),.sl none 5 (tysD b),.fn (.func f) [] []] [] Q := by
 have hKl := tys_len a
 have hKl' := tys_len b
 generalize tysD a = KS at hKl ⊢
 generalize tysD b = KS' at hKl' ⊢
 cbv
 (repeat'((first|(apply zS;kernel_rfl)|(apply zD;decide +kernel)|(apply zE;decide +kernel)|(apply zF;decide +kernel)|(apply zL;decide +kernel)|(apply zM;decide +kernel)|(apply zN;intros)|(apply zO;intros)|(apply zT;omega)|(apply zU;omega)|(apply zP;omega;intros)|(apply zQ;omega;intros)|apply zR);cbv))
 exact ⟨hQ _⟩
theorem eqfT_cp (f : FuncId) (p : Ty5 -> Ty5 -> Bool) (a b : List Ty5) (hks : a.length ≤ 9223372036854775807) (hc : ∀ t ∈ a,∀ u ∈ b,CP (TT ()) f [tyD t,tyD u] (· = .raw (.bool (p t u)))) :
  CP (TT ()) 45 [.sl none 5 (tysD a),.sl none 5 (tysD b),fnE f] (· = .raw (.bool (al2 p a b))) := by
 refine CP.argE (es := [.sl none 5 (tysD a),.sl none 5 (tysD b),.fn (.func f) [] []]) ?_ (.cons (.refl _) (.cons (.refl _) (.cons (fnE_wk f) .nil)))
 by_cases hl : a.length = b.length
 ·exact c4_run (eqfT_run f p a b hl hks hc)
 ·have e : al2 p a b = false := by
   rw [Bool.eq_false_iff]
   exact fun h => hl (al2_len h)
  rw [e]
  exact c4_run (eqfT_off f a b hl)
theorem eqfB_run (f : FuncId) (p : Bd -> Bd -> Bool) (a b : List Bd) (hl : a.length = b.length) (hks : a.length ≤ 9223372036854775807)
  (hc : ∀ t ∈ a,∀ u ∈ b,CP (TT ()) f [bnD t,bnD u] (· = .raw (.bool (p t u)))) (Q : D -> H -> Prop) (hQ : ∀ h',Q (.raw (.bool (al2 p a b))) h') :
  wfun TT 49 [.sl none 6 (bnsD a),.sl none 6 (bnsD b),.fn (.func f) [] []] [] Q := by
 have q2 : al2 p a b ≠ true -> ∀ h',Q (.raw (.bool false)) h' := fun h => by rw [Bool.eq_false_iff.2 h] at hQ;exact hQ
 have q3 : al2 p a b = true -> ∀ h',Q (.raw (.bool true)) h' := fun h => by rw [h] at hQ;exact hQ
 have hKl := bns_len a
 have hKl' := bns_len b
 have hKi := bns_idb a
 have hKi' := bns_idb b
 have hKat := fun i => bns_at (m := a) (i := i)
 have hKat' := fun i => bns_at (m := b) (i := i)
 clear hQ
 generalize bnsD a = KS at hKl hKi hKat ⊢
 generalize bnsD b = KS' at hKl' hKi' hKat' ⊢
 cbv
 (repeat'((first|(apply zS;kernel_rfl)|(apply zD;decide +kernel)|(apply zE;decide +kernel)|(apply zF;decide +kernel)|(apply zL;decide +kernel)|(apply zM;decide +kernel)|(apply zN;intros)|(apply zO;intros)|(apply zT;omega)|(apply zU;omega)|(apply zP;omega;intros)|(apply zQ;omega;intros)|apply zR);cbv))
 refine LoopK.put (X := Int) (fun x => [(17,.raw (.int .i64 x))]) (fun _ => []) (fun x => a.length - x.toNat) (fun x => 0 ≤ x ∧ x.toNat ≤ a.length ∧ ∀ (j : Nat) (t u : Bd),j < x.toNat -> a[j]? = some t -> b[j]? = some u -> p t u = true) 0 ⟨by simp,by simp,fun j t u hj => absurd hj (Nat.not_lt_zero _)⟩ rfl rfl ?_
 rintro i N ⟨h0,hi,hj⟩ hN
 simp only at h0 hi hj hN ⊢
 cbv
 (repeat'((first|(apply zS;kernel_rfl)|(apply zD;decide +kernel)|(apply zE;decide +kernel)|(apply zF;decide +kernel)|(apply zL;decide +kernel)|(apply zM;decide +kernel)|(apply zN;intros)|(apply zO;intros)|(apply zT;omega)|(apply zU;omega)|(apply zP;omega;intros)|(apply zQ;omega;intros)|apply zR);cbv))
 refine BinK.lss ?_ ?_ <;> intro hlt <;> cbv <;> (repeat'((first|(apply zS;kernel_rfl)|(apply zD;decide +kernel)|(apply zE;decide +kernel)|(apply zF;decide +kernel)|(apply zL;decide +kernel)|(apply zM;decide +kernel)|(apply zN;intros)|(apply zO;intros)|(apply zT;omega)|(apply zU;omega)|(apply zP;omega;intros)|(apply zQ;omega;intros)|apply zR);cbv))
 ·obtain ⟨t,ht,hK⟩ := hKat i.toNat (by omega)
  obtain ⟨u,hu,hK'⟩ := hKat' i.toNat (by omega)
  have hct := hc t (List.mem_of_getElem? ht) u (List.mem_of_getElem? hu)
  have hpt := bn_pure t
  have hpu := bn_pure u
  have hno : p t u = false -> ∀ h',Q (.raw (.bool false)) h' := fun e => q2 fun h => by
   have := (al2_at hl).1 h i.toNat t u ht hu
   rw [e] at this
   cases this
  have hnext : p t u = true -> ∀ r : Int,r = i + 1 -> ∀ (j : Nat) (t u : Bd),j < r.toNat -> a[j]? = some t -> b[j]? = some u -> p t u = true := fun e r hr j x y hjr hx hy => by
   by_cases hji : j = i.toNat
   ·rw [hji,ht] at hx
    rw [hji,hu] at hy
    cases hx
    cases hy
    exact e
   ·exact hj j x y (by omega) hx hy
  generalize p t u = bb at hct hno hnext
  obtain ⟨k0,n0,m0,L0,K0,f0,f0',i0,j0⟩ := bn_node t
  obtain ⟨k1,n1,m1,L1,K1,f1,f1',i1,j1⟩ := bn_node u
  rw [f0] at hct hpt hK
  rw [f1] at hct hpu hK'
  generalize t.1 = s1 at hct hpt hK
  generalize u.1 = s2 at hct hpu hK'
  clear f0 f1 f0' f1' hc q2 q3 hj ht hu
  refine IdxK.intro h0 hK ?_
  cbv
  (repeat'((first|(apply zS;kernel_rfl)|(apply zD;decide +kernel)|(apply zE;decide +kernel)|(apply zF;decide +kernel)|(apply zL;decide +kernel)|(apply zM;decide +kernel)|(apply zN;intros)|(apply zO;intros)|(apply zT;omega)|(apply zU;omega)|(apply zP;omega;intros)|(apply zQ;omega;intros)|apply zR);cbv))
  refine IdxK.intro h0 hK' ?_
  cbv
  (repeat'((first|(apply zS;kernel_rfl)|(apply zD;decide +kernel)|(apply zE;decide +kernel)|(apply zF;decide +kernel)|(apply zL;decide +kernel)|(apply zM;decide +kernel)|(apply zN;intros)|(apply zO;intros)|(apply zT;omega)|(apply zU;omega)|(apply zP;omega;intros)|(apply zQ;omega;intros)|apply zR);cbv))
  refine .one hct (cons_pure hpt (cons_pure hpu rfl)) rfl ?_
  rcases bb with _ | _
  ·cbv
   (repeat'((first|(apply zS;kernel_rfl)|(apply zD;decide +kernel)|(apply zE;decide +kernel)|(apply zF;decide +kernel)|(apply zL;decide +kernel)|(apply zM;decide +kernel)|(apply zN;intros)|(apply zO;intros)|(apply zT;omega)|(apply zU;omega)|(apply zP;omega;intros)|(apply zQ;omega;intros)|apply zR);cbv))
   exact ⟨hno rfl _⟩
  have hnext := hnext rfl
  cbv
  (repeat'((first|(apply zS;kernel_rfl)|(apply zD;decide +kernel)|(apply zE;decide +kernel)|(apply zF;decide +kernel)|(apply zL;decide +kernel)|(apply zM;decide +kernel)|(apply zN;intros)|(apply zO;intros)|(apply zT;omega)|(apply zU;omega)|(apply zP;omega;intros)|(apply zQ;omega;intros)|apply zR);cbv))
  rename_i r hr
  have hnext := hnext r hr
  refine RoundK.forget r ⟨by omega,by omega,hnext⟩ (by omega) rfl rfl ?_ ?_
  ·simp [idbL,idb,hKi,hKi',i0,j0,i1,j1]
  ·simp [cellIdb,idbL,idb,hKi,hKi',i0,j0,i1,j1]
 ·have hLt : al2 p a b = true := (al2_at hl).2 fun j t u ht hu => hj j t u (by have := (List.getElem?_eq_some_iff.1 ht).1;omega) ht hu
  exact ⟨q3 hLt _⟩
theorem eqfB_off (f : FuncId) (a b : List Bd) (hl : a.length ≠ b.length) (Q : D -> H -> Prop) (hQ : ∀ h',Q (.raw (.bool false)) h') : wfun TT 49 [.sl none 6 (bnsD a),.sl none 6 (bnsD b),.fn (.func f) [] []] [] Q := by
 have hKl := bns_len a
 have hKl' := bns_len b
 generalize bnsD a = KS at hKl ⊢
 generalize bnsD b = KS' at hKl' ⊢
 cbv
 (repeat'((first|(apply zS;kernel_rfl)|(apply zD;decide +kernel)|(apply zE;decide +kernel)|(apply zF;decide +kernel)|(apply zL;decide +kernel)|(apply zM;decide +kernel)|(apply zN;intros)|(apply zO;intros)|(apply zT;omega)|(apply zU;omega)|(apply zP;omega;intros)|(apply zQ;omega;intros)|apply zR);cbv))
 exact ⟨hQ _⟩
theorem eqfB_cp (f : FuncId) (p : Bd -> Bd -> Bool) (a b : List Bd) (hks : a.length ≤ 9223372036854775807) (hc : ∀ t ∈ a,∀ u ∈ b,CP (TT ()) f [bnD t,bnD u] (· = .raw (.bool (p t u)))) :
  CP (TT ()) 49 [.sl none 6 (bnsD a),.sl none 6 (bnsD b),fnE f] (· = .raw (.bool (al2 p a b))) := by
 refine CP.argE (es := [.sl none 6 (bnsD a),.sl none 6 (bnsD b),.fn (.func f) [] []]) ?_ (.cons (.refl _) (.cons (.refl _) (.cons (fnE_wk f) .nil)))
 by_cases hl : a.length = b.length
 ·exact c4_run (eqfB_run f p a b hl hks hc)
 ·have e : al2 p a b = false := by
   rw [Bool.eq_false_iff]
   exact fun h => hl (al2_len h)
  rw [e]
  exact c4_run (eqfB_off f a b hl)
theorem eqfE_run (f : FuncId) (p : Ex7 -> Ex7 -> Bool) (a b : List Ex7) (hl : a.length = b.length) (hks : a.length ≤ 9223372036854775807)
  (hc : ∀ t ∈ a,∀ u ∈ b,CP (TT ()) f [exD t,exD u] (· = .raw (.bool (p t u)))) (Q : D -> H -> Prop) (hQ : ∀ h',Q (.raw (.bool (al2 p a b))) h') :
  wfun TT 48 [.sl none 7 (exsD a),.sl none 7 (exsD b),.fn (.func f) [] []] [] Q := by
 have q2 : al2 p a b ≠ true -> ∀ h',Q (.raw (.bool false)) h' := fun h => by rw [Bool.eq_false_iff.2 h] at hQ;exact hQ
 have q3 : al2 p a b = true -> ∀ h',Q (.raw (.bool true)) h' := fun h => by rw [h] at hQ;exact hQ
 have hKl := exs_len a
 have hKl' := exs_len b
 have hKi := exs_idb a
 have hKi' := exs_idb b
 have hKat := fun i => exs_at (ks := a) (i := i)
 have hKat' := fun i => exs_at (ks := b) (i := i)
 clear hQ
 generalize exsD a = KS at hKl hKi hKat ⊢
 generalize exsD b = KS' at hKl' hKi' hKat' ⊢
 cbv
 (repeat'((first|(apply zS;kernel_rfl)|(apply zD;decide +kernel)|(apply zE;decide +kernel)|(apply zF;decide +kernel)|(apply zL;decide +kernel)|(apply zM;decide +kernel)|(apply zN;intros)|(apply zO;intros)|(apply zT;omega)|(apply zU;omega)|(apply zP;omega;intros)|(apply zQ;omega;intros)|apply zR);cbv))
 refine LoopK.put (X := Int) (fun x => [(17,.raw (.int .i64 x))]) (fun _ => []) (fun x => a.length - x.toNat) (fun x => 0 ≤ x ∧ x.toNat ≤ a.length ∧ ∀ (j : Nat) (t u : Ex7),j < x.toNat -> a[j]? = some t -> b[j]? = some u -> p t u = true) 0 ⟨by simp,by simp,fun j t u hj => absurd hj (Nat.not_lt_zero _)⟩ rfl rfl ?_
 rintro i N ⟨h0,hi,hj⟩ hN
 simp only at h0 hi hj hN ⊢
 cbv
 (repeat'((first|(apply zS;kernel_rfl)|(apply zD;decide +kernel)|(apply zE;decide +kernel)|(apply zF;decide +kernel)|(apply zL;decide +kernel)|(apply zM;decide +kernel)|(apply zN;intros)|(apply zO;intros)|(apply zT;omega)|(apply zU;omega)|(apply zP;omega;intros)|(apply zQ;omega;intros)|apply zR);cbv))
 refine BinK.lss ?_ ?_ <;> intro hlt <;> cbv <;> (repeat'((first|(apply zS;kernel_rfl)|(apply zD;decide +kernel)|(apply zE;decide +kernel)|(apply zF;decide +kernel)|(apply zL;decide +kernel)|(apply zM;decide +kernel)|(apply zN;intros)|(apply zO;intros)|(apply zT;omega)|(apply zU;omega)|(apply zP;omega;intros)|(apply zQ;omega;intros)|apply zR);cbv))
 ·obtain ⟨t,ht,hK⟩ := hKat i.toNat (by omega)
  obtain ⟨u,hu,hK'⟩ := hKat' i.toNat (by omega)
  have hct := hc t (List.mem_of_getElem? ht) u (List.mem_of_getElem? hu)
  have hpt := ex_pure t
  have hpu := ex_pure u
  have hno : p t u = false -> ∀ h',Q (.raw (.bool false)) h' := fun e => q2 fun h => by
   have := (al2_at hl).1 h i.toNat t u ht hu
   rw [e] at this
   cases this
  have hnext : p t u = true -> ∀ r : Int,r = i + 1 -> ∀ (j : Nat) (t u : Ex7),j < r.toNat -> a[j]? = some t -> b[j]? = some u -> p t u = true := fun e r hr j x y hjr hx hy => by
   by_cases hji : j = i.toNat
   ·rw [hji,ht] at hx
    rw [hji,hu] at hy
    cases hx
    cases hy
    exact e
   ·exact hj j x y (by omega) hx hy
  generalize p t u = bb at hct hno hnext
  obtain ⟨k0,n0,m0,b0,T0,L0,K0,f0,i0,j0,g0⟩ := ex_node t
  obtain ⟨k1,n1,m1,b1,T1,L1,K1,f1,i1,j1,g1⟩ := ex_node u
  rw [f0] at hct hpt hK
  rw [f1] at hct hpu hK'
  clear f0 f1 hc q2 q3 hj ht hu
  refine IdxK.intro h0 hK ?_
  cbv
  (repeat'((first|(apply zS;kernel_rfl)|(apply zD;decide +kernel)|(apply zE;decide +kernel)|(apply zF;decide +kernel)|(apply zL;decide +kernel)|(apply zM;decide +kernel)|(apply zN;intros)|(apply zO;intros)|(apply zT;omega)|(apply zU;omega)|(apply zP;omega;intros)|(apply zQ;omega;intros)|apply zR);cbv))
  refine IdxK.intro h0 hK' ?_
  cbv
  (repeat'((first|(apply zS;kernel_rfl)|(apply zD;decide +kernel)|(apply zE;decide +kernel)|(apply zF;decide +kernel)|(apply zL;decide +kernel)|(apply zM;decide +kernel)|(apply zN;intros)|(apply zO;intros)|(apply zT;omega)|(apply zU;omega)|(apply zP;omega;intros)|(apply zQ;omega;intros)|apply zR);cbv))
  refine .one hct (cons_pure hpt (cons_pure hpu rfl)) rfl ?_
  rcases bb with _ | _
  ·cbv
   (repeat'((first|(apply zS;kernel_rfl)|(apply zD;decide +kernel)|(apply zE;decide +kernel)|(apply zF;decide +kernel)|(apply zL;decide +kernel)|(apply zM;decide +kernel)|(apply zN;intros)|(apply zO;intros)|(apply zT;omega)|(apply zU;omega)|(apply zP;omega;intros)|(apply zQ;omega;intros)|apply zR);cbv))
   exact ⟨hno rfl _⟩
  have hnext := hnext rfl
  cbv
  (repeat'((first|(apply zS;kernel_rfl)|(apply zD;decide +kernel)|(apply zE;decide +kernel)|(apply zF;decide +kernel)|(apply zL;decide +kernel)|(apply zM;decide +kernel)|(apply zN;intros)|(apply zO;intros)|(apply zT;omega)|(apply zU;omega)|(apply zP;omega;intros)|(apply zQ;omega;intros)|apply zR);cbv))
  rename_i r hr
  have hnext := hnext r hr
  refine RoundK.forget r ⟨by omega,by omega,hnext⟩ (by omega) rfl rfl ?_ ?_
  ·simp [idbL,idb,hKi,hKi',i0,j0,g0,i1,j1,g1]
  ·simp [cellIdb,idbL,idb,hKi,hKi',i0,j0,g0,i1,j1,g1]
 ·have hLt : al2 p a b = true := (al2_at hl).2 fun j t u ht hu => hj j t u (by have := (List.getElem?_eq_some_iff.1 ht).1;omega) ht hu
  exact ⟨q3 hLt _⟩
theorem eqfE_off (f : FuncId) (a b : List Ex7) (hl : a.length ≠ b.length) (Q : D -> H -> Prop) (hQ : ∀ h',Q (.raw (.bool false)) h') : wfun TT 48 [.sl none 7 (exsD a),.sl none 7 (exsD b),.fn (.func f) [] []] [] Q := by
 have hKl := exs_len a
 have hKl' := exs_len b
 generalize exsD a = KS at hKl ⊢
 generalize exsD b = KS' at hKl' ⊢
 cbv
 (repeat'((first|(apply zS;kernel_rfl)|(apply zD;decide +kernel)|(apply zE;decide +kernel)|(apply zF;decide +kernel)|(apply zL;decide +kernel)|(apply zM;decide +kernel)|(apply zN;intros)|(apply zO;intros)|(apply zT;omega)|(apply zU;omega)|(apply zP;omega;intros)|(apply zQ;omega;intros)|apply zR);cbv))
 exact ⟨hQ _⟩
theorem eqfE_cp (f : FuncId) (p : Ex7 -> Ex7 -> Bool) (a b : List Ex7) (hks : a.length ≤ 9223372036854775807) (hc : ∀ t ∈ a,∀ u ∈ b,CP (TT ()) f [exD t,exD u] (· = .raw (.bool (p t u)))) :
  CP (TT ()) 48 [.sl none 7 (exsD a),.sl none 7 (exsD b),fnE f] (· = .raw (.bool (al2 p a b))) := by
 refine CP.argE (es := [.sl none 7 (exsD a),.sl none 7 (exsD b),.fn (.func f) [] []]) ?_ (.cons (.refl _) (.cons (.refl _) (.cons (fnE_wk f) .nil)))
 by_cases hl : a.length = b.length
 ·exact c4_run (eqfE_run f p a b hl hks hc)
 ·have e : al2 p a b = false := by
   rw [Bool.eq_false_iff]
   exact fun h => hl (al2_len h)
  rw [e]
  exact c4_run (eqfE_off f a b hl)
theorem psameE_run (k n : Int) (nm : ByteArray) (hs : Bool) (ts : List Ty5) (ls : List ByteArray) (ks : List Ex7) (k' n' : Int) (nm' : ByteArray) (hs' : Bool) (ts' : List Ty5) (ls' : List ByteArray) (ks' : List Ex7)
  (cT : CP (TT ()) 45 [.sl none 5 (tysD ts),.sl none 5 (tysD ts'),fnE 46] (· = .raw (.bool (sameL ts ts'))))
  (cL : CP (TT ()) 47 [.sl none 1 (ls.map strD),.sl none 1 (ls'.map strD)] (· = .raw (.bool (eqL ls ls'))))
  (cK : CP (TT ()) 48 [.sl none 7 (exsD ks),.sl none 7 (exsD ks'),fnE 25] (· = .raw (.bool (sameEL ks ks'))))
  (Q : D -> H -> Prop) (hQ : ∀ h',Q (.raw (.bool (sameE (.mk k n nm hs ts ls ks) (.mk k' n' nm' hs' ts' ls' ks')))) h') : wfun TT 25 [exD (.mk k n nm hs ts ls ks),exD (.mk k' n' nm' hs' ts' ls' ks')] [] Q := by
 have hLp := strs_pure ls
 have hLp' := strs_pure ls'
 have hTp := tys_pure ts
 have hTp' := tys_pure ts'
 have hKp := exs_pure ks
 have hKp' := exs_pure ks'
 simp only [exD]
 simp only [sameE] at hQ
 generalize sameL ts ts' = b1 at cT hQ
 generalize eqL ls ls' = b2 at cL hQ
 generalize sameEL ks ks' = b3 at cK hQ
 generalize ls.map strD = LS at cL hLp ⊢
 generalize ls'.map strD = LS' at cL hLp' ⊢
 generalize tysD ts = TS at cT hTp ⊢
 generalize tysD ts' = TS' at cT hTp' ⊢
 generalize exsD ks = KS at cK hKp ⊢
 generalize exsD ks' = KS' at cK hKp' ⊢
 cbv
 (repeat'((first|(apply zS;kernel_rfl)|(apply zD;decide +kernel)|(apply zE;decide +kernel)|(apply zF;decide +kernel)|(apply zL;decide +kernel)|(apply zM;decide +kernel)|(apply zN;intros)|(apply zO;intros)|(apply zT;omega)|(apply zU;omega)|(apply zP;omega;intros)|(apply zQ;omega;intros)|apply zR);cbv))
 refine BinK.eql ?_ ?_ <;> intro e1 <;> cbv
 case refine_2 =>
  rw [beq_eq_false_iff_ne.2 e1] at hQ
  (repeat'((first|(apply zS;kernel_rfl)|(apply zD;decide +kernel)|(apply zE;decide +kernel)|(apply zF;decide +kernel)|(apply zL;decide +kernel)|(apply zM;decide +kernel)|(apply zN;intros)|(apply zO;intros)|(apply zT;omega)|(apply zU;omega)|(apply zP;omega;intros)|(apply zQ;omega;intros)|apply zR);cbv))
  exact ⟨hQ _⟩
 rw [beq_iff_eq.2 e1] at hQ
 (repeat'((first|(apply zS;kernel_rfl)|(apply zD;decide +kernel)|(apply zE;decide +kernel)|(apply zF;decide +kernel)|(apply zL;decide +kernel)|(apply zM;decide +kernel)|(apply zN;intros)|(apply zO;intros)|(apply zT;omega)|(apply zU;omega)|(apply zP;omega;intros)|(apply zQ;omega;intros)|apply zR);cbv))
 refine BinK.eql ?_ ?_ <;> intro e2 <;> cbv
 case refine_2 =>
  rw [beq_eq_false_iff_ne.2 e2] at hQ
  (repeat'((first|(apply zS;kernel_rfl)|(apply zD;decide +kernel)|(apply zE;decide +kernel)|(apply zF;decide +kernel)|(apply zL;decide +kernel)|(apply zM;decide +kernel)|(apply zN;intros)|(apply zO;intros)|(apply zT;omega)|(apply zU;omega)|(apply zP;omega;intros)|(apply zQ;omega;intros)|apply zR);cbv))
  exact ⟨hQ _⟩
 rw [beq_iff_eq.2 e2] at hQ
 (repeat'((first|(apply zS;kernel_rfl)|(apply zD;decide +kernel)|(apply zE;decide +kernel)|(apply zF;decide +kernel)|(apply zL;decide +kernel)|(apply zM;decide +kernel)|(apply zN;intros)|(apply zO;intros)|(apply zT;omega)|(apply zU;omega)|(apply zP;omega;intros)|(apply zQ;omega;intros)|apply zR);cbv))
 refine BinK.seql ?_ ?_ <;> intro e3 <;> cbv
 case refine_2 =>
  rw [show eqS nm nm' = false from Bool.eq_false_iff.2 fun h => e3 (eqS_iff.1 h)] at hQ
  (repeat'((first|(apply zS;kernel_rfl)|(apply zD;decide +kernel)|(apply zE;decide +kernel)|(apply zF;decide +kernel)|(apply zL;decide +kernel)|(apply zM;decide +kernel)|(apply zN;intros)|(apply zO;intros)|(apply zT;omega)|(apply zU;omega)|(apply zP;omega;intros)|(apply zQ;omega;intros)|apply zR);cbv))
  exact ⟨hQ _⟩
 rw [eqS_iff.2 e3] at hQ
 (repeat'((first|(apply zS;kernel_rfl)|(apply zD;decide +kernel)|(apply zE;decide +kernel)|(apply zF;decide +kernel)|(apply zL;decide +kernel)|(apply zM;decide +kernel)|(apply zN;intros)|(apply zO;intros)|(apply zT;omega)|(apply zU;omega)|(apply zP;omega;intros)|(apply zQ;omega;intros)|apply zR);cbv))
 refine ⟨.bool (hs == hs'),by cases hs <;> cases hs' <;> first | rfl | kernel_rfl,?_⟩
 generalize (hs == hs') = bb at hQ ⊢
 cases bb
 case false =>
  cbv
  (repeat'((first|(apply zS;kernel_rfl)|(apply zD;decide +kernel)|(apply zE;decide +kernel)|(apply zF;decide +kernel)|(apply zL;decide +kernel)|(apply zM;decide +kernel)|(apply zN;intros)|(apply zO;intros)|(apply zT;omega)|(apply zU;omega)|(apply zP;omega;intros)|(apply zQ;omega;intros)|apply zR);cbv))
  exact ⟨hQ _⟩
 cbv
 (repeat'((first|(apply zS;kernel_rfl)|(apply zD;decide +kernel)|(apply zE;decide +kernel)|(apply zF;decide +kernel)|(apply zL;decide +kernel)|(apply zM;decide +kernel)|(apply zN;intros)|(apply zO;intros)|(apply zT;omega)|(apply zU;omega)|(apply zP;omega;intros)|(apply zQ;omega;intros)|apply zR);cbv))
 refine .one cT (by simp [pureL,pureD,hTp,hTp']) rfl ?_
 cases b1
 case false =>
  cbv
  (repeat'((first|(apply zS;kernel_rfl)|(apply zD;decide +kernel)|(apply zE;decide +kernel)|(apply zF;decide +kernel)|(apply zL;decide +kernel)|(apply zM;decide +kernel)|(apply zN;intros)|(apply zO;intros)|(apply zT;omega)|(apply zU;omega)|(apply zP;omega;intros)|(apply zQ;omega;intros)|apply zR);cbv))
  exact ⟨hQ _⟩
 cbv
 (repeat'((first|(apply zS;kernel_rfl)|(apply zD;decide +kernel)|(apply zE;decide +kernel)|(apply zF;decide +kernel)|(apply zL;decide +kernel)|(apply zM;decide +kernel)|(apply zN;intros)|(apply zO;intros)|(apply zT;omega)|(apply zU;omega)|(apply zP;omega;intros)|(apply zQ;omega;intros)|apply zR);cbv))
 refine .one cL (by simp [pureL,pureD,hLp,hLp']) rfl ?_
 cases b2
 case false =>
  cbv
  (repeat'((first|(apply zS;kernel_rfl)|(apply zD;decide +kernel)|(apply zE;decide +kernel)|(apply zF;decide +kernel)|(apply zL;decide +kernel)|(apply zM;decide +kernel)|(apply zN;intros)|(apply zO;intros)|(apply zT;omega)|(apply zU;omega)|(apply zP;omega;intros)|(apply zQ;omega;intros)|apply zR);cbv))
  exact ⟨hQ _⟩
 cbv
 (repeat'((first|(apply zS;kernel_rfl)|(apply zD;decide +kernel)|(apply zE;decide +kernel)|(apply zF;decide +kernel)|(apply zL;decide +kernel)|(apply zM;decide +kernel)|(apply zN;intros)|(apply zO;intros)|(apply zT;omega)|(apply zU;omega)|(apply zP;omega;intros)|(apply zQ;omega;intros)|apply zR);cbv))
 refine .one cK (by simp [pureL,pureD,hKp,hKp']) rfl ?_
 cases b3
 case false =>
  cbv
  (repeat'((first|(apply zS;kernel_rfl)|(apply zD;decide +kernel)|(apply zE;decide +kernel)|(apply zF;decide +kernel)|(apply zL;decide +kernel)|(apply zM;decide +kernel)|(apply zN;intros)|(apply zO;intros)|(apply zT;omega)|(apply zU;omega)|(apply zP;omega;intros)|(apply zQ;omega;intros)|apply zR);cbv))
  exact ⟨hQ _⟩
 cbv
 (repeat'((first|(apply zS;kernel_rfl)|(apply zD;decide +kernel)|(apply zE;decide +kernel)|(apply zF;decide +kernel)|(apply zL;decide +kernel)|(apply zM;decide +kernel)|(apply zN;intros)|(apply zO;intros)|(apply zT;omega)|(apply zU;omega)|(apply zP;omega;intros)|(apply zQ;omega;intros)|apply zR);cbv))
 exact ⟨hQ _⟩
theorem psameE_cp : ∀ a : Ex7,okE a -> nodesE a ≤ 1000000 -> ∀ b : Ex7,okE b -> CP (TT ()) 25 [exD a,exD b] (· = .raw (.bool (sameE a b))) := by
 refine ex_ind fun k n nm hs ts ls ks ih ho hn b hb => ?_
 obtain ⟨k',n',nm',hs',ts',ls',ks'⟩ := b
 have h1 := nodesL_len ts
 have h2 := nodesEL_len ks
 simp only [nodesE] at hn
 refine c4_run fun Q hQ => psameE_run k n nm hs ts ls ks k' n' nm' hs' ts' ls' ks' ?_ (pequal14_cp ls ls' ho.2.2.1 hb.2.2.1) ?_ Q hQ
 ·rw [sameL_al]
  exact eqfT_cp _ sameT ts ts' (by omega) fun t ht u hu => psame14_cp t u (okL_get ho.2.1 t ht) (okL_get hb.2.1 u hu)
 ·rw [sameEL_al]
  refine eqfE_cp _ sameE ks ks' (by omega) fun t ht u hu => ih t ht (okEL_get ho.2.2.2 t ht) ?_ u (okEL_get hb.2.2.2 u hu)
  have := nodesEL_mem ht
  omega
theorem psameBd_run (p q : Bd) (hp : okT p.2) (hq : okT q.2) : CP (TT ()) 50 [bnD p,bnD q] (· = .raw (.bool (sameP p q))) := by
 have c := psame14_cp p.2 q.2 hp hq
 have hp1 := ty_pure p.2
 have hq1 := ty_pure q.2
 refine c4_run fun Q hQ => ?_
 unfold sameP at hQ
 generalize sameT p.2 q.2 = bb at c hQ
 obtain ⟨k0,n0,m0,L0,K0,f0,f0',i0,j0⟩ := bn_node p
 obtain ⟨k1,n1,m1,L1,K1,f1,f1',i1,j1⟩ := bn_node q
 rw [f0'] at c hp1
 rw [f1'] at c hq1
 rw [f0,f1]
 clear f0 f1 f0' f1'
 generalize p.1 = s at hQ ⊢
 generalize q.1 = s' at hQ ⊢
 cbv
 (repeat'((first|(apply zS;kernel_rfl)|(apply zD;decide +kernel)|(apply zE;decide +kernel)|(apply zF;decide +kernel)|(apply zL;decide +kernel)|(apply zM;decide +kernel)|(apply zN;intros)|(apply zO;intros)|(apply zT;omega)|(apply zU;omega)|(apply zP;omega;intros)|(apply zQ;omega;intros)|apply zR);cbv))
 refine BinK.seql ?_ ?_ <;> intro e3 <;> cbv
 case refine_2 =>
  rw [decide_eq_false e3] at hQ
  (repeat'((first|(apply zS;kernel_rfl)|(apply zD;decide +kernel)|(apply zE;decide +kernel)|(apply zF;decide +kernel)|(apply zL;decide +kernel)|(apply zM;decide +kernel)|(apply zN;intros)|(apply zO;intros)|(apply zT;omega)|(apply zU;omega)|(apply zP;omega;intros)|(apply zQ;omega;intros)|apply zR);cbv))
  exact ⟨hQ _⟩
 rw [decide_eq_true e3] at hQ
 (repeat'((first|(apply zS;kernel_rfl)|(apply zD;decide +kernel)|(apply zE;decide +kernel)|(apply zF;decide +kernel)|(apply zL;decide +kernel)|(apply zM;decide +kernel)|(apply zN;intros)|(apply zO;intros)|(apply zT;omega)|(apply zU;omega)|(apply zP;omega;intros)|(apply zQ;omega;intros)|apply zR);cbv))
 refine .one c (cons_pure hp1 (cons_pure hq1 rfl)) rfl ?_
 cases bb <;> cbv <;> (repeat'((first|(apply zS;kernel_rfl)|(apply zD;decide +kernel)|(apply zE;decide +kernel)|(apply zF;decide +kernel)|(apply zL;decide +kernel)|(apply zM;decide +kernel)|(apply zN;intros)|(apply zO;intros)|(apply zT;omega)|(apply zU;omega)|(apply zP;omega;intros)|(apply zQ;omega;intros)|apply zR);cbv)) <;> exact ⟨hQ _⟩
open Go.RowKit Go.Shelf
attribute [local go_sem] Oper.semAt_some
mutual
theorem depth_fold : ∀ (t : Ty5) (d g : Int),0 ≤ d -> d + depthT t ≤ 1000001 -> (walkT d t).foldl (fun g p => max g p.1) g = max g (d + depthT t - 1)
 | .mk k n nm ls ks,d,g,h0,h1 => by
  simp only [depthT] at h1 ⊢
  simp only [walkT,List.foldl_cons]
  rw [wrap_small (by omega) (by omega),depthL_fold ks (d + 1) (max g d) (by omega) (by omega) (by omega)]
  omega
theorem depthL_fold : ∀ (ks : List Ty5) (d g : Int),0 ≤ d -> d - 1 ≤ g -> d + depthL ks ≤ 1000001 -> (walkL d ks).foldl (fun g p => max g p.1) g = max g (d + depthL ks - 1)
 | [],d,g,h0,hg,h1 => by
  simp only [walkL,depthL,List.foldl_nil]
  omega
 | t :: r,d,g,h0,hg,h1 => by
  simp only [depthL] at h1 ⊢
  simp only [walkL,List.foldl_append]
  rw [depth_fold t d g h0 (by omega),depthL_fold r d _ h0 (by omega) (by omega)]
  omega
end
def gmax {w0 : World} (xs : List (Nd w0)) : Int := xs.foldl (fun g x => max g x.d) 0
theorem gmax_snoc {w0 : World} (xs : List (Nd w0)) (x : Nd w0) : gmax (xs ++ [x]) = max (gmax xs) x.d := by simp [gmax]
theorem gmax_keys {w0 : World} {xs : List (Nd w0)} {t : Ty5} (h : xs.map Nd.key = walkT 1 t) (hn : nodesT t ≤ 1000000) : gmax xs = depthT t := by
 have h1 := depth_fold t 1 0 (by omega) (by have := depth_nodes t;omega)
 rw [← h,List.foldl_map] at h1
 unfold gmax
 refine Eq.trans ?_ (h1.trans (by omega))
 rfl
theorem pdepth_any (t : Ty5) (v0 v1 v2 v3 v4 : Value) (w : World) (hT : TyIn w t v0 v1 v2 v3 v4) (hn : nodesT t ≤ 1000000) :
  Calls Try.prog 36 #[.agg #[v0,v1,v2,v3,v4]] w fun e w' => e = .returned (.int .i64 (depthT t)) ∧ Below w.heap.size w w' := by
 refine (callsIn_wide (n := 6)).1 ?_
 have hf1 : Fence.wide.fn 64 := trivial
 have HT := Asd.mk hT
 have HN := Asd.mk hn
 clear hT hn
 refine callsIn_of_wp_marks Try.func36 rfl trivial ?_ rfl
 simp only [Try.ntmps36,List.size_toArray,List.length_cons,List.length_nil,Nat.reduceAdd,Nat.reduceSub,Array.replicate_succ,Array.replicate_zero,List.push_toArray,List.append_toArray,List.nil_append,List.cons_append]
 gi_wp2_with (gi_at_call 64;refine (callsIn_wide.2 (nodes_any v0 v1 v2 v3 v4 _)).mono ?_;rintro e w' ⟨rfl,rfl⟩)
 have bS := boxed_nodesW (Boxed.new (w.alloc (.cells #[v0,v1,v2,v3,v4] 38)) 3 (.int .i64 0)) v0 v1 v2 v3 v4
 have bA := nodesW_root ((w.alloc (.cells #[v0,v1,v2,v3,v4] 38)).alloc (.cells #[.int .i64 0] 3)) v0 v1 v2 v3 v4
 have bP := nodesW_parts ((w.alloc (.cells #[v0,v1,v2,v3,v4] 38)).alloc (.cells #[.int .i64 0] 3)) v0 v1 v2 v3 v4
 have hB0 : Below w.heap.size w (nodesW ((w.alloc (.cells #[v0,v1,v2,v3,v4] 38)).alloc (.cells #[.int .i64 0] 3)) v0 v1 v2 v3 v4) := below_nodesW (((Below.refl _ w).alloc (Nat.le_refl _) _).alloc (by simp) _) (by simp only [World.size_alloc] <;> omega) v0 v1 v2 v3 v4
 have hsz : (nodesW ((w.alloc (.cells #[v0,v1,v2,v3,v4] 38)).alloc (.cells #[.int .i64 0] 3)) v0 v1 v2 v3 v4).heap.size = w.heap.size + 5 := by rw [nodesW_size];simp only [World.size_alloc] <;> omega
 simp only [World.size_alloc] at bS bA bP
 obtain ⟨W0,hW0⟩ : ∃ W0,nodesW ((w.alloc (.cells #[v0,v1,v2,v3,v4] 38)).alloc (.cells #[.int .i64 0] 3)) v0 v1 v2 v3 v4 = W0 := ⟨_,rfl⟩
 rw [hW0] at bS bA bP hB0 hsz ⊢
 clear hW0
 refine wpIn_rangeFunc_ownH rfl (by omega) (gf := 87) (lb := #[.pointer (some ⟨w.heap.size + 1 + 1 + 1,0,none⟩),.pointer (some ⟨w.heap.size + 1 + 1 + 1 + 1,0,none⟩)]) rfl trivial (enters_of Try.func87 (by kernel_rfl) rfl)
  (nodes_stops 5 (w.heap.size + 1 + 1 + 1) (w.heap.size + 1 + 1 + 1 + 1) (w.heap.size + 5) (fun k => k = w.heap.size + 1) (fun k h => by omega) w W0 t v0 v1 v2 v3 v4 HT.out hB0 (by omega) bA bP) kpS_t (kpS_b (by omega)) (Below.refl _ _) (fun _ => rfl)
  (fun pre W => Boxed W (w.heap.size + 1) 3 (.int .i64 (gmax pre)) ∧ Below w.heap.size w W)
  (fun _ _ _ => False)
  (OwnFrom.and (Own.from (boxed_own _ _ _) _) (ownFrom_below (Nat.le_refl _) (by omega)))
  (fun _ _ _ _ _ hs _ _ => hs)
  ⟨bS,hB0⟩
  (fun x a' _ => a' = { tmps := #[.agg #[v0,v1,v2,v3,v4],.pointer (some ⟨w.heap.size,0,none⟩),.int .i64 0,.pointer (some ⟨w.heap.size + 1,0,none⟩),.int .i64 x.d,.agg #[v0,v1,v2,v3,v4],.func (.func 87) #[] #[.pointer (some ⟨w.heap.size + 1 + 1 + 1,0,none⟩),.pointer (some ⟨w.heap.size + 1 + 1 + 1 + 1,0,none⟩)],.int .i64 x.d,.agg #[x.v0,x.v1,x.v2,x.v3,x.v4],undef,undef,undef,undef],defers := [] })
  (fun _ _ _ _ _ _ hs _ _ => hs)
  ?assign ?body ?done ?stop
 case assign =>
  intro l pre x W K hi hK
  simp only [Nd.vals,zip2]
  gi_wp2
  exact hK _ _ (KeepsFrom.refl _ _) (KpS.refl _ _ _) hi rfl
 case body =>
  rintro l pre x a' W hl hr ⟨bS1,hB1⟩ rfl hlt
  have cS := bS1.cell
  have fS := bS1.frozen
  gi_wp2
  all_goals
   refine ⟨(KeepsOthers.setCell _ _ _).from _,KpS.store (S := fun k => k = w.heap.size + 1) W rfl (by omega) _,?_,hB1.setCell (p := ⟨w.heap.size + 1,0,none⟩) (by simp) _⟩
   rw [gmax_snoc]
   first
        | exact bS1.set _
        | (rw [show max (gmax pre) x.d = x.d by omega]; exact bS1.set _)
        | (rw [show max (gmax pre) x.d = gmax pre by omega]; exact bS1.set _)
 case done =>
  rintro D xs W hD hxs ⟨bS1,hB1⟩ hK
  have cS := bS1.cell
  gi_wp2
  refine ⟨by simp,.inl ⟨_,_,rfl,run_takeDeferred hK,?_⟩⟩
  exact ⟨_,results_tmp rfl _ _ _,by rw [gmax_keys hxs HN.out];rfl,hB1.trans (belowK_b (w := w) (Nat.le_refl _) W D _ _ (by omega) hK rfl rfl)⟩
 case stop =>
  rintro D c pre W _ _ h _
  exact h.elim
mutual
theorem has_walk (kd : Int) : ∀ (t : Ty5) (d : Int),(walkT d t).any (fun p => p.2.k == kd) = hasT kd t
 | .mk k n nm ls ks,d => by
  simp only [walkT,hasT,List.any_cons]
  rw [hasL_walk kd ks]
  try rfl
theorem hasL_walk (kd : Int) : ∀ (ks : List Ty5) (d : Int),(walkL d ks).any (fun p => p.2.k == kd) = hasL kd ks
 | [],d => rfl
 | t :: r,d => by
  simp only [walkL,hasL,List.any_append]
  rw [has_walk kd t,hasL_walk kd r]
end
def Box5 (W : World) (B : Nat) {w0 : World} (x : Nd w0) : Prop := W.heap[B]? = some (.cells #[x.v0,x.v1,x.v2,x.v3,x.v4] 38 (0,0))
theorem box5_own {w0 : World} (B : Nat) (x : Nd w0) : Own (fun (_ : Unit) W => Box5 W B x) := fun s X Y row hs hg hrow => by
 have hlt : B < X.heap.size := (Array.getElem?_eq_some_iff.1 (show X.heap[B]? = _ from hs)).1
 exact (hg.block B hlt (fun e' => by obtain ⟨o,ho,hc⟩ := hrow B e'.symm;rw [show X.heap[B]? = _ from hs] at ho;cases ho;cases hc)).trans hs
theorem Box5.kind {W : World} {B : Nat} {w0 : World} {x : Nd w0} (h : Box5 W B x) : W.cell? ⟨B,0,none⟩ = some (.int .i64 x.t.k) := by
 obtain ⟨d,⟨k',n',nm',ls',ks'⟩,u0,u1,u2,u3,u4,hu⟩ := x
 have h1 := box_cell (i := 0) h rfl
 obtain ⟨rfl,_⟩ := hu
 exact h1
theorem any_part {w0 : World} {pre : List (Nd w0)} {l : List (Int × Ty5)} {p : Int × Ty5 -> Bool} (h : pre.map Nd.key <+: l) {y : Nd w0} (hy : y ∈ pre) (hp : p y.key = true) : l.any p = true :=
 List.any_eq_true.2 ⟨y.key,h.subset (List.mem_map_of_mem hy),hp⟩
theorem any_none {w0 : World} {pre : List (Nd w0)} {l : List (Int × Ty5)} {p : Int × Ty5 -> Bool} (h : pre.map Nd.key = l) (hy : ∀ y ∈ pre,p y.key = false) : l.any p = false := by
 rw [← h,Bool.eq_false_iff]
 intro hc
 obtain ⟨q,hq,hp⟩ := List.any_eq_true.1 hc
 obtain ⟨y,hy',rfl⟩ := List.mem_map.1 hq
 rw [hy y hy'] at hp
 cases hp
theorem phas_any (t : Ty5) (kd : Int) (v0 v1 v2 v3 v4 : Value) (w : World) (hT : TyIn w t v0 v1 v2 v3 v4) :
  Calls Try.prog 71 #[.agg #[v0,v1,v2,v3,v4],.int .i64 kd] w fun e w' => e = .returned (.bool (hasT kd t)) ∧ Below w.heap.size w w' := by
 refine (callsIn_wide (n := 6)).1 ?_
 have hf1 : Fence.wide.fn 64 := trivial
 have HT := Asd.mk hT
 clear hT
 refine callsIn_of_wp_marks Try.func71 rfl trivial ?_ rfl
 simp only [Try.ntmps71,List.size_toArray,List.length_cons,List.length_nil,Nat.reduceAdd,Nat.reduceSub,Array.replicate_succ,Array.replicate_zero,List.push_toArray,List.append_toArray,List.nil_append,List.cons_append]
 gi_wp2_with (gi_at_call 64;refine (callsIn_wide.2 (nodes_any v0 v1 v2 v3 v4 _)).mono ?_;rintro e w' ⟨rfl,rfl⟩)
 obtain ⟨w1,hw1⟩ : ∃ w1,w.alloc (.cells #[v0,v1,v2,v3,v4] 38) = w1 := ⟨_,rfl⟩
 have hb1 : Below w.heap.size w w1 := by rw [← hw1];exact (Below.refl _ w).alloc (Nat.le_refl _) _
 have hs1 : w1.heap.size = w.heap.size + 1 := by rw [← hw1];simp
 rw [hw1]
 clear hw1
 have bK := boxed_nodesW ((Boxed.new w1 3 (.int .i64 kd)).alloc (.cells #[.bool false] 4)) v0 v1 v2 v3 v4
 have bR := boxed_nodesW (Boxed.new (w1.alloc (.cells #[.int .i64 kd] 3)) 4 (.bool false)) v0 v1 v2 v3 v4
 have bA := nodesW_root ((w1.alloc (.cells #[.int .i64 kd] 3)).alloc (.cells #[.bool false] 4)) v0 v1 v2 v3 v4
 have bP := nodesW_parts ((w1.alloc (.cells #[.int .i64 kd] 3)).alloc (.cells #[.bool false] 4)) v0 v1 v2 v3 v4
 have hB0 : Below w.heap.size w (nodesW ((w1.alloc (.cells #[.int .i64 kd] 3)).alloc (.cells #[.bool false] 4)) v0 v1 v2 v3 v4) := below_nodesW ((hb1.alloc (by omega) _).alloc (by simp;omega) _) (by simp only [World.size_alloc] <;> omega) v0 v1 v2 v3 v4
 have hsz : (nodesW ((w1.alloc (.cells #[.int .i64 kd] 3)).alloc (.cells #[.bool false] 4)) v0 v1 v2 v3 v4).heap.size = w.heap.size + 6 := by rw [nodesW_size];simp only [World.size_alloc] <;> omega
 simp only [World.size_alloc,hs1] at bK bR bA bP
 obtain ⟨W0,hW0⟩ : ∃ W0,nodesW ((w1.alloc (.cells #[.int .i64 kd] 3)).alloc (.cells #[.bool false] 4)) v0 v1 v2 v3 v4 = W0 := ⟨_,rfl⟩
 rw [hW0] at bK bR bA bP hB0 hsz ⊢
 clear hW0
 refine wpIn_rangeFunc_ownH rfl (by omega) (gf := 87) (lb := #[.pointer (some ⟨w.heap.size + 1 + 1 + 1 + 1,0,none⟩),.pointer (some ⟨w.heap.size + 1 + 1 + 1 + 1 + 1,0,none⟩)]) rfl trivial (enters_of Try.func87 (by kernel_rfl) rfl)
  (nodes_stops 5 (w.heap.size + 1 + 1 + 1 + 1) (w.heap.size + 1 + 1 + 1 + 1 + 1) (w.heap.size + 6) (fun k => k = w.heap.size + 1 + 1) (fun k h => by omega) w W0 t v0 v1 v2 v3 v4 HT.out hB0 (by omega) bA bP) kpS_t (kpS_b (by omega)) (Below.refl _ _) (fun _ => rfl)
  (fun pre W => ((Boxed W (w.heap.size + 1 + 1) 4 (.bool false) ∧ Boxed W (w.heap.size + 1) 3 (.int .i64 kd)) ∧ (∀ y ∈ pre,y.t.k ≠ kd)) ∧ Below w.heap.size w W)
  (fun c pre W => ((c = .ret ∧ ∃ y ∈ pre,y.t.k = kd) ∧ Boxed W (w.heap.size + 1 + 1) 4 (.bool true)) ∧ Below w.heap.size w W)
  (OwnFrom.and (OwnFrom.and (OwnFrom.and (Own.from (boxed_own _ _ _) _) (Own.from (boxed_own _ _ _) _)) (ownFrom_pure _ _)) (ownFrom_below (Nat.le_refl _) (by omega)))
  (fun c => OwnFrom.and (OwnFrom.and (ownFrom_pure _ _) (Own.from (boxed_own _ _ _) _)) (ownFrom_below (Nat.le_refl _) (by omega)))
  ⟨⟨⟨bR,bK⟩,by simp⟩,hB0⟩
  (fun x a' W => ∃ Bx,Box5 W Bx x ∧ a' = { tmps := #[.agg #[v0,v1,v2,v3,v4],.int .i64 kd,.pointer (some ⟨w.heap.size,0,none⟩),.pointer (some ⟨w.heap.size + 1,0,none⟩),.pointer (some ⟨w.heap.size + 1 + 1,0,none⟩),undef,.pointer (some ⟨Bx,0,none⟩),.agg #[v0,v1,v2,v3,v4],.func (.func 87) #[] #[.pointer (some ⟨w.heap.size + 1 + 1 + 1 + 1,0,none⟩),.pointer (some ⟨w.heap.size + 1 + 1 + 1 + 1 + 1,0,none⟩)],.int .i64 x.d,.agg #[x.v0,x.v1,x.v2,x.v3,x.v4],undef,undef,undef,undef],defers := [] })
  (fun x a' _ X Y row hs hg hr => by
   obtain ⟨Bx,h1,h2⟩ := hs
   exact ⟨Bx,box5_own Bx x () X Y row h1 hg (fun r e => (hr r e).2),h2⟩)
  ?assign ?body ?done ?stop
 case assign =>
  rintro l pre x W K ⟨⟨⟨bR1,bK1⟩,h3⟩,hB1⟩ hK
  have hW := hB1.size
  obtain ⟨d,t',u0,u1,u2,u3,u4,hu⟩ := x
  obtain ⟨k',n',nm',a',l',cc',a'',l'',cc'',rfl,rfl,rfl,rfl,rfl⟩ := hu.form
  simp only [Nd.vals,zip2]
  gi_wp2
  exact hK _ _ ((KeepsOthers.alloc _ _).from _) (KpS.of_below hW ((Below.refl _ _).alloc (Nat.le_refl _) _)) ⟨⟨⟨bR1.alloc _,bK1.alloc _⟩,h3⟩,hB1.alloc hB1.size _⟩ ⟨W.heap.size,World.alloc_heap_new W _,rfl⟩
 case body =>
  rintro l pre x a' W hl hr ⟨⟨⟨bR1,bK1⟩,h3⟩,hB1⟩ ⟨Bx,bX,rfl⟩ hlt
  have cR := bR1.cell
  have fR := bR1.frozen
  have cK := bK1.cell
  have cX := bX.kind
  rcases Bool.eq_false_or_eq_true (x.t.k == kd) with hq | hq
  ·gi_wp2
   refine ⟨(KeepsOthers.setCell _ _ _).from _,⟨⟨rfl,⟨_,List.mem_append_right _ (List.mem_singleton.2 rfl),beq_iff_eq.1 hq⟩⟩,bR1.set _⟩,hB1.setCell (p := ⟨w.heap.size + 1 + 1,0,none⟩) (by simp;omega) _⟩
  ·gi_wp2
   refine ⟨KeepsFrom.refl _ _,KpS.refl _ _ _,⟨⟨bR1,bK1⟩,fun y hy => ?_⟩,hB1⟩
   rcases List.mem_append.1 hy with hy | hy
   ·exact h3 y hy
   ·rw [List.mem_singleton.1 hy]
    exact fun e => by rw [show x.t.k = kd from e,beq_self_eq_true] at hq;cases hq
 case done =>
  rintro D xs W hD hxs ⟨⟨⟨bR1,bK1⟩,h3⟩,hB1⟩ hK
  have cR := bR1.cell
  have fR := bR1.frozen
  gi_wp2
  have hK' := (KeepsOthers.setCell W ⟨w.heap.size + 1 + 1,0,none⟩ (.bool false)).same D _ hK rfl
  refine ⟨by simp,.inl ⟨_,_,rfl,run_takeDeferred hK',?_⟩⟩
  have hc5 := cell_kept (bR1.set (.bool false)).cell (grownBy_putObj' _ D (.deferred none)) (fun r e => by cases e;exact ⟨_,hK',rfl⟩)
  refine ⟨.bool false,?_,by rw [← has_walk kd t 1,any_none hxs (fun y hy => by have := h3 y hy;simpa [Nd.key] using this)],(hB1.setCell (p := ⟨w.heap.size + 1 + 1,0,none⟩) (by simp;omega) _).trans (belowK_b (w := w) (Nat.le_refl _) _ D _ _ (by omega) hK' rfl rfl)⟩
  simp [results,Try.results71,go_sem,hc5]
 case stop =>
  rintro D c pre W hD hpre ⟨⟨⟨rfl,y,hy,hk⟩,bR1⟩,hB1⟩ hK
  gi_wp2
  refine ⟨by simp,.inl ⟨_,_,rfl,run_takeDeferred hK,?_⟩⟩
  have hc5 := cell_kept bR1.cell (grownBy_putObj' _ D (.deferred none)) (fun r e => by cases e;exact ⟨_,hK,rfl⟩)
  refine ⟨.bool true,?_,by rw [← has_walk kd t 1,any_part hpre hy (by simpa [Nd.key] using hk)],hB1.trans (belowK_b (w := w) (Nat.le_refl _) W D _ _ (by omega) hK rfl rfl)⟩
  simp [results,Try.results71,go_sem,hc5]
open Go.RowKit Go.Deep Go.Sort
def headT : Ty5 -> Bool
 | .mk k n nm ls ks => headB varB risingB k n nm ls ks.length
theorem sound_any (k n : Int) (nm : ByteArray) (ls : List ByteArray) (len : Nat) (a3 : Option Addr) (cap3 : Nat) (a4 : Option Addr) (cap4 : Nat) (w : World)
  (hm : nm.size ≤ maxLen) (hl : StrsAt w (.slice a3 ls.length cap3) ls) (hk : len ≤ maxLen) :
  Calls Try.prog 80 #[.agg #[.int .i64 k,.int .i64 n,.string nm,.slice a3 ls.length cap3,.slice a4 len cap4]] w fun e w' =>
   e = .returned (.bool (headB varB risingB k n nm ls len)) ∧ Below w.heap.size w w' := by
 have hlm := hl.2.1
 unfold maxLen at hk hlm
 have hB1 : Below w.heap.size w (w.alloc (.cells #[.int .i64 k,.int .i64 n,.string nm,.slice a3 ls.length cap3,.slice a4 len cap4] 38)) := (Below.refl _ _).alloc (Nat.le_refl _) _
 have hbox : (w.alloc (.cells #[.int .i64 k,.int .i64 n,.string nm,.slice a3 ls.length cap3,.slice a4 len cap4] 38)).heap[w.heap.size]? = some (.cells #[.int .i64 k,.int .i64 n,.string nm,.slice a3 ls.length cap3,.slice a4 len cap4] 38 (0,0)) := World.alloc_heap_new w _
 have hsz : (w.alloc (.cells #[.int .i64 k,.int .i64 n,.string nm,.slice a3 ls.length cap3,.slice a4 len cap4] 38)).heap.size = w.heap.size + 1 := by simp
 have HM := Asd.mk hm
 have HL := Asd.mk (hl.mono hB1)
 have HB1 := Asd.mk hB1
 have HX := Asd.mk hbox
 have HZ := Asd.mk hsz
 clear hm hl hB1 hbox hsz
 by_cases h5 : k = 1 ∨ k = 2 ∨ k = 3 ∨ k = 4 ∨ k = 5
 ·have HE : Asd (headB varB risingB k n nm ls len = decide (n = 0 ∧ nm.toList = [] ∧ ls.length = 0 ∧ len = 0)) := ⟨by
   have h6 : ¬ k = 6 := by omega
   have h9 : ¬ k = 9 := by omega
   have h8 : ¬ k = 8 := by omega
   have hk1 : 1 ≤ k ∧ k ≤ 5 := by omega
   unfold headB
   rw [if_pos hk1]
   simp only [h6,h9,h8,not_false_eq_true,true_and]
   by_cases hn : n = 0 <;> by_cases hs : nm.toList = [] <;> by_cases hq : ls.length = 0 <;> by_cases hc : len = 0 <;> simp [hn,hs,hq,hc] <;> omega⟩
  rcases h5 with rfl | rfl | rfl | rfl | rfl
  all_goals
   go_enter Try.func80,Try.ntmps80
   go_wp2
   all_goals go_ret
   all_goals (refine ⟨retB ?_,by go_grown⟩;rw [HE.out])
   all_goals clear HE HL HX HZ HB1 HM
   all_goals simp_all
   all_goals try (rw [Bool.eq_iff_iff];simp)
 by_cases h6 : k = 6
 ·subst h6
  have HE : Asd (headB varB risingB 6 n nm ls len = (varB nm && decide (n = 0 ∧ ls.length = 0 ∧ len = 0))) := ⟨by
   unfold headB
   by_cases hn : n = 0 <;> by_cases hq : ls.length = 0 <;> by_cases hc : len = 0 <;> simp [hn,hq,hc] <;> omega⟩
  go_enter Try.func80,Try.ntmps80
  rcases Bool.eq_false_or_eq_true (varB nm) with hv | hv
  all_goals
   go_wp2_with (go_at_call 100;refine (var_any _ _ HM.out).mono ?_;rintro e w2 ⟨rfl,hb2⟩;rw [hv];have hx := (hb2.block w.heap.size (by have := HZ.out;omega)).trans HX.out;have y2 := box_cell (i := 2) hx rfl;have y1 := box_cell (i := 1) hx rfl;have y3 := box_cell (i := 3) hx rfl;have y4 := box_cell (i := 4) hx rfl;have f2 : w2.frozen? ⟨w.heap.size,2,none⟩ = false := by simp [World.frozen?,hx])
   all_goals go_ret
   all_goals refine ⟨retB ?_,(HB1.out.trans (hb2.mono HB1.out.size)).setCell (p := ⟨w.heap.size,2,none⟩) (Nat.le_refl _) _⟩
   all_goals (rw [HE.out,hv];clear HE HL HX HZ HB1 HM hx y1 y2 y3 y4 f2 hb2)
   all_goals simp_all
   all_goals try (rw [Bool.eq_iff_iff];simp)
 by_cases h9 : k = 9
 ·subst h9
  have HE : Asd (headB varB risingB 9 n nm ls len = decide (0 ≤ n ∧ n ≤ 1073741824 ∧ nm.toList = [] ∧ ls.length = 0 ∧ len = 0)) := ⟨by
   unfold headB
   by_cases hn : 0 ≤ n <;> by_cases hn' : n ≤ 1073741824 <;> by_cases hs : nm.toList = [] <;> by_cases hq : ls.length = 0 <;> by_cases hc : len = 0 <;> simp [hn,hn',hs,hq,hc] <;> omega⟩
  go_enter Try.func80,Try.ntmps80
  go_wp2
  all_goals go_ret
  all_goals (refine ⟨retB ?_,by go_grown⟩;rw [HE.out])
  all_goals clear HE HL HX HZ HB1 HM
  all_goals simp_all
  all_goals try (rw [Bool.eq_iff_iff];simp)
  all_goals try omega
 by_cases h7 : k = 7
 ·subst h7
  have HE : Asd (headB varB risingB 7 n nm ls len = decide (len = 2 ∧ n = 0 ∧ nm.toList = [] ∧ ls.length = 0)) := ⟨by
   unfold headB
   by_cases hn : n = 0 <;> by_cases hs : nm.toList = [] <;> by_cases hq : ls.length = 0 <;> by_cases hc : len = 2 <;> simp [hn,hs,hq,hc] <;> omega⟩
  go_enter Try.func80,Try.ntmps80
  go_wp2
  all_goals go_ret
  all_goals (refine ⟨retB ?_,by go_grown⟩;rw [HE.out])
  all_goals clear HE HL HX HZ HB1 HM
  all_goals simp_all
  all_goals try (rw [Bool.eq_iff_iff];simp)
  all_goals try omega
 by_cases h8 : k = 8
 ·subst h8
  have HE : Asd (headB varB risingB 8 n nm ls len = (decide (ls.length = len) && (risingB ls && decide (n = 0 ∧ nm.toList = [])))) := ⟨by
   unfold headB
   by_cases hn : n = 0 <;> by_cases hs : nm.toList = [] <;> by_cases hc : ls.length = len <;> simp [hn,hs,hc] <;> omega⟩
  by_cases hc : ls.length = len
  ·subst hc
   go_enter Try.func80,Try.ntmps80
   rcases Bool.eq_false_or_eq_true (risingB ls) with hv | hv
   all_goals
    go_wp2_with (go_at_call 57;refine (rising_any _ _ _ HL.out).mono ?_;rintro e w2 ⟨rfl,hb2⟩;rw [hv];have hx := (hb2.block w.heap.size (by have := HZ.out;omega)).trans HX.out;have y2 := box_cell (i := 2) hx rfl;have y1 := box_cell (i := 1) hx rfl;have y3 := box_cell (i := 3) hx rfl;have y4 := box_cell (i := 4) hx rfl;have f3 : w2.frozen? ⟨w.heap.size,3,none⟩ = false := (by simp [World.frozen?,hx]);have f4 : w2.frozen? ⟨w.heap.size,4,none⟩ = false := by simp [World.frozen?,hx])
    all_goals go_ret
    all_goals refine ⟨retB ?_,((HB1.out.trans (hb2.mono HB1.out.size)).setCell (p := ⟨w.heap.size,3,none⟩) (Nat.le_refl _) _).setCell (p := ⟨w.heap.size,4,none⟩) (Nat.le_refl _) _⟩
    all_goals (rw [HE.out,hv];clear HE HL HX HZ HB1 HM hx y1 y2 y3 y4 f3 f4 hb2)
    all_goals simp_all
    all_goals try (rw [Bool.eq_iff_iff];simp)
  ·go_enter Try.func80,Try.ntmps80
   go_wp2
   all_goals go_ret
   all_goals (refine ⟨retB ?_,by go_grown⟩;rw [HE.out])
   all_goals clear HE HL HX HZ HB1 HM
   all_goals simp_all
 have HE : Asd (headB varB risingB k n nm ls len = false) := ⟨by
  unfold headB
  have h1 : ¬ (1 ≤ k ∧ k ≤ 5) := by omega
  rw [if_neg h1]
  simp [h6,h9,h7,h8]⟩
 have h1 : ¬ k = 1 := by omega
 have h2 : ¬ k = 2 := by omega
 have h3 : ¬ k = 3 := by omega
 have h4 : ¬ k = 4 := by omega
 have h5' : ¬ k = 5 := by omega
 go_enter Try.func80,Try.ntmps80
 go_wp2
 all_goals go_ret
 all_goals (refine ⟨retB ?_,by go_grown⟩;rw [HE.out])
end Go.Proofs.Ytglefhgcfijiaaa

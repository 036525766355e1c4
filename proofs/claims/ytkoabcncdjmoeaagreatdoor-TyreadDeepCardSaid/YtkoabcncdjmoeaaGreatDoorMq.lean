/- Parts of the proof: RdM, RdC, RdT, RdN, RdW, RdO, RdS, RdU, RdL, RdF, RdG, RdH, RdA. -/
import Derived.Test.YtkoabcncdjmoeaaGreatDoorMd
import Derived.Test.YtkoabcncdjmoeaaGreatDoorMp
import Derived.Test.YtkoabcncdjmoeaaGreatDoorMe
set_option linter.unusedSimpArgs false
set_option linter.unusedVariables false
set_option maxRecDepth 1000000
set_option maxHeartbeats 40000000
namespace Go.Proofs.YtkoabcncdjmoeaaGreatDoor
open Go.RowKit
structure Tkn where
 k : Int
 n : Int
 s : ByteArray
 a : Int
def tokT (l : List Tkn) (i : Int) : Tkn := if 0 ≤ i then l.getD i.toNat ⟨0,0,⟨#[]⟩,0⟩ else ⟨0,0,⟨#[]⟩,0⟩
def isT (l : List Tkn) (i : Int) (s : ByteArray) : Bool := decide ((tokT l i).k = 5) && decide ((tokT l i).s = s)
def misT (t : Tkn) : Int := if t.k = 0 then 5 else 4
inductive Rs where
  | ok (t : Ty5) (to : Int)
  | bad (e p : Int)
def meanT (s : ByteArray) : Option Ty5 :=
 if s = ⟨#[73,110,116]⟩ then some (.mk 1 0 ⟨#[]⟩ [] [])
 else if s = ⟨#[66,111,111,108]⟩ then some (.mk 2 0 ⟨#[]⟩ [] [])
 else if s = ⟨#[83,116,114,105,110,103]⟩ then some (.mk 3 0 ⟨#[]⟩ [] [])
 else if s = ⟨#[84,111,112]⟩ then some (.mk 4 0 ⟨#[]⟩ [] [])
 else if varB s = true then some (.mk 6 0 s [] [])
 else none
def wrongT (l : List Tkn) (i : Int) : Rs := .bad (misT (tokT l i)) (tokT l i).a
def wordS (l : List Tkn) (i : Int) : Rs :=
 if (tokT l i).k = 4 then match meanT (tokT l i).s with
  | some u => .ok u (i + 1)
  | none => wrongT l i
 else wrongT l i
def inB (ls : List ByteArray) (s : ByteArray) : Bool := ls.any fun x => decide (x = s)
theorem inB_mem {ls : List ByteArray} {s : ByteArray} : inB ls s = true ↔ s ∈ ls := by
 simp [inB]
def labelS (rd : Int -> Rs) (l : List Tkn) (next : Int -> List ByteArray -> List Ty5 -> Rs) (j : Int) (ls : List ByteArray) (ks : List Ty5) : Rs :=
 if (tokT l j).k = 3 ∧ fineB (tokT l j).s = true then
  if inB ls (tokT l j).s = true then .bad 9 (tokT l j).a
  else if isT l (j + 1) ⟨#[58]⟩ = true then match rd (j + 2) with
   | .ok u to => next to (ls ++ [(tokT l j).s]) (ks ++ [u])
   | .bad e p => .bad e p
  else wrongT l (j + 1)
 else wrongT l j
def fieldsS (recT : List ByteArray -> List Ty5 -> Ty5) (rd : Int -> Rs) (l : List Tkn) : Nat -> Int -> List ByteArray -> List Ty5 -> Rs
 | 0,i,_,_ => wrongT l i
 | f + 1,i,ls,ks =>
  if isT l i ⟨#[125]⟩ = true then .ok (recT ls ks) (i + 1)
  else if ls ≠ [] ∧ isT l i ⟨#[44]⟩ = false then wrongT l i
  else labelS rd l (fieldsS recT rd l f) (if ls = [] then i else i + 1) ls ks
def simpleS (recT : List ByteArray -> List Ty5 -> Ty5) (rd : Int -> Rs) (l : List Tkn) (i : Int) : Rs :=
 if isT l i ⟨#[63]⟩ = true then .ok (.mk 5 0 ⟨#[]⟩ [] []) (i + 1)
 else if isT l i ⟨#[40]⟩ = true then match rd (i + 1) with
  | .ok t to => if isT l to ⟨#[41]⟩ = true then .ok t (to + 1) else wrongT l to
  | .bad e p => .bad e p
 else if isT l i ⟨#[123]⟩ = true then fieldsS recT rd l (l.length + 1) (i + 1) [] []
 else wordS l i
def readS (recT : List ByteArray -> List Ty5 -> Ty5) (l : List Tkn) : Nat -> Int -> Rs
 | 0,i => .bad 7 (tokT l i).a
 | n + 1,i => match simpleS recT (readS recT l n) l i with
  | .ok t to => if isT l to ⟨#[45,62]⟩ = true then match readS recT l n (to + 1) with
    | .ok u to2 => .ok (.mk 7 0 ⟨#[]⟩ [] [t,u]) to2
    | .bad e p => .bad e p
   else .ok t to
  | .bad e p => .bad e p
theorem labelS_to {rd : Int -> Rs} {l : List Tkn} (h : ∀ i t to,rd i = .ok t to -> i < to) {next : Int -> List ByteArray -> List Ty5 -> Rs} (hn : ∀ i ls ks t to,next i ls ks = .ok t to -> i < to) {j : Int} {ls : List ByteArray} {ks : List Ty5} {t : Ty5} {to : Int} (e : labelS rd l next j ls ks = .ok t to) : j < to := by
 unfold labelS wrongT at e
 split at e
 ·split at e
  ·cases e
  split at e
  ·split at e
   ·rename_i u to' hr
    have h1 := h _ _ _ hr
    have h2 := hn _ _ _ _ _ e
    omega
   ·cases e
  ·cases e
 ·cases e
theorem fieldsS_to {recT : List ByteArray -> List Ty5 -> Ty5} {rd : Int -> Rs} {l : List Tkn} (h : ∀ i t to,rd i = .ok t to -> i < to) : ∀ {f : Nat} {i : Int} {ls : List ByteArray} {ks : List Ty5} {t : Ty5} {to : Int},fieldsS recT rd l f i ls ks = .ok t to -> i < to
 | 0,i,ls,ks,t,to,e => by simp [fieldsS,wrongT] at e
 | f + 1,i,ls,ks,t,to,e => by
  simp only [fieldsS] at e
  split at e
  ·cases e;omega
  split at e
  ·simp [wrongT] at e
  ·have := labelS_to h (fun _ _ _ _ _ e => fieldsS_to h e) e
   split at this <;> omega
theorem simpleS_to {recT : List ByteArray -> List Ty5 -> Ty5} {rd : Int -> Rs} {l : List Tkn} (h : ∀ i t to,rd i = .ok t to -> i < to) {i : Int} {t : Ty5} {to : Int} (e : simpleS recT rd l i = .ok t to) : i < to := by
 unfold simpleS at e
 split at e
 ·cases e;omega
 split at e
 ·split at e
  ·rename_i u to' hr
   have h1 := h _ _ _ hr
   unfold wrongT at e
   split at e
   ·cases e;omega
   ·cases e
  ·cases e
 split at e
 ·have := fieldsS_to h e
  omega
 ·unfold wordS wrongT at e
  split at e
  ·split at e
   ·cases e;omega
   ·cases e
  ·cases e
theorem readS_to {recT : List ByteArray -> List Ty5 -> Ty5} {l : List Tkn} : ∀ {n : Nat} {i : Int} {t : Ty5} {to : Int},readS recT l n i = .ok t to -> i < to
 | 0,i,t,to,e => by simp [readS] at e
 | n + 1,i,t,to,e => by
  simp only [readS] at e
  split at e
  ·rename_i u to' hs
   have h1 := simpleS_to (fun i t to e => readS_to e) hs
   split at e
   ·split at e
    ·rename_i v to2 hr
     have h2 := readS_to hr
     cases e
     omega
    ·cases e
   ·cases e
    exact h1
  ·cases e
theorem less_not (a b : List UInt8) (h1 : Op.bytesLess a b = true) (h2 : Op.bytesLess b a = true) : False := by
 have h3 := less_trans a b a h1 h2
 rw [less_irr] at h3
 cases h3
def insP (p : ByteArray × Ty5) : List (ByteArray × Ty5) -> List (ByteArray × Ty5)
 | [] => [p]
 | q :: r => if ltS p.1 q.1 = true then p :: q :: r else q :: insP p r
def sortP (l : List (ByteArray × Ty5)) : List (ByteArray × Ty5) := l.foldr insP []
def recT (ls : List ByteArray) (ks : List Ty5) : Ty5 := .mk 8 0 ⟨#[]⟩ ((sortP (ls.zip ks)).map Prod.fst) ((sortP (ls.zip ks)).map Prod.snd)
theorem insP_perm (p : ByteArray × Ty5) : ∀ l,(insP p l).Perm (p :: l)
 | [] => .refl _
 | q :: r => by
  unfold insP
  split
  ·exact .refl _
  ·exact ((insP_perm p r).cons q).trans (.swap p q r)
theorem sortP_perm : ∀ l,(sortP l).Perm l
 | [] => .refl _
 | p :: l => (insP_perm p (sortP l)).trans ((sortP_perm l).cons p)
theorem ltS_total {a b : ByteArray} (h : a ≠ b) : ltS a b = true ∨ ltS b a = true := by
 unfold ltS
 rcases less_total a.toList b.toList with h1 | h1 | h1
 ·exact .inl h1
 ·exact absurd (eqS_iff.1 (by unfold eqS;rw [h1];exact beq_self_eq_true _)) h
 ·exact .inr h1
theorem insP_comm {p q : ByteArray × Ty5} (h : p.1 ≠ q.1) : ∀ l,insP p (insP q l) = insP q (insP p l)
 | [] => by
  unfold insP
  rcases ltS_total h with h1 | h1
  ·have h2 : ¬ ltS q.1 p.1 = true := fun h2 => less_not _ _ h1 h2
   simp only [insP,h1,h2,if_true]
   simp
  ·have h2 : ¬ ltS p.1 q.1 = true := fun h2 => less_not _ _ h1 h2
   simp only [insP,h1,h2,if_true]
   simp
 | x :: r => by
  have ih := insP_comm h r
  by_cases hp : ltS p.1 x.1 = true
  ·by_cases hq : ltS q.1 x.1 = true
   ·rcases ltS_total h with h1 | h1
    ·have h2 : ¬ ltS q.1 p.1 = true := fun h2 => less_not _ _ h1 h2
     simp only [insP,hp,hq,h1,h2,if_true,if_false]
     simp
    ·have h2 : ¬ ltS p.1 q.1 = true := fun h2 => less_not _ _ h1 h2
     simp only [insP,hp,hq,h1,h2,if_true,if_false]
     simp
   ·have h2 : ¬ ltS q.1 p.1 = true := fun h2 => hq (less_trans _ _ _ h2 hp)
    simp only [insP,hp,hq,h2,if_true]
    simp [insP,hp,hq,h2]
  ·by_cases hq : ltS q.1 x.1 = true
   ·have h2 : ¬ ltS p.1 q.1 = true := fun h2 => hp (less_trans _ _ _ h2 hq)
    simp only [insP,hp,hq,h2,if_true]
    simp [insP,hp,hq,h2]
   ·simp only [insP,hp,hq]
    simp [insP,hp,hq,ih]
theorem sortP_eq {A B : List (ByteArray × Ty5)} (h : A.Perm B) (hn : (A.map Prod.fst).Nodup) : sortP A = sortP B := by
 unfold sortP
 refine List.Perm.foldr_eq' h (fun x hx y hy z => ?_) []
 by_cases e : x.1 = y.1
 ·have : x = y := by
   obtain ⟨i,hi,rfl⟩ := List.getElem_of_mem hx
   obtain ⟨j,hj,rfl⟩ := List.getElem_of_mem hy
   have hpw := List.pairwise_iff_getElem.1 (List.pairwise_map.1 hn)
   rcases Nat.lt_trichotomy i j with h1 | h1 | h1
   ·exact absurd e (hpw i j hi hj h1)
   ·subst h1
    rfl
   ·exact absurd e.symm (hpw j i hj hi h1)
  rw [this]
 ·exact insP_comm (fun e' => e e'.symm) z
theorem recT_shape {ls : List ByteArray} {ks : List Ty5} (hl : ls.length = ks.length) (hn : ls.Nodup) : ∃ L K,recT ls ks = .mk 8 0 ⟨#[]⟩ L K ∧ L.Perm ls ∧ K.length = L.length ∧ ∀ s u,s ∉ ls -> recT (L ++ [s]) (K ++ [u]) = recT (ls ++ [s]) (ks ++ [u]) := by
 have hp := sortP_perm (ls.zip ks)
 have hf : ((ls.zip ks).map Prod.fst) = ls := List.map_fst_zip (by omega)
 refine ⟨_,_,rfl,?_,by simp,fun s u hs => ?_⟩
 ·have := hp.map Prod.fst
  rwa [hf] at this
 ·have e1 : ((sortP (ls.zip ks)).map Prod.fst ++ [s]).zip ((sortP (ls.zip ks)).map Prod.snd ++ [u]) = sortP (ls.zip ks) ++ [(s,u)] := by
   rw [List.zip_append (by simp)]
   rw [← List.zip_of_prod rfl rfl]
   try rfl
  have e2 : (ls ++ [s]).zip (ks ++ [u]) = ls.zip ks ++ [(s,u)] := by
   rw [List.zip_append hl]
   try rfl
  have e3 : sortP (sortP (ls.zip ks) ++ [(s,u)]) = sortP (ls.zip ks ++ [(s,u)]) := by
   refine sortP_eq (hp.append_right _) ?_
   rw [List.map_append]
   have hpf := hp.map Prod.fst
   rw [hf] at hpf
   refine List.nodup_append.2 ⟨hpf.nodup_iff.2 hn,by simp,fun a ha b hb e => ?_⟩
   simp only [List.map_cons,List.map_nil,List.mem_singleton] at hb
   rw [hb] at e
   exact hs (e ▸ hpf.mem_iff.1 ha)
  unfold recT
  rw [e1,e2,e3]
theorem risingq_up {l : List ByteArray} (h : risingB l = true) {j : Nat} (hj : j < l.length) : upAt l j = true := by
 simp only [risingB,List.all_eq_true,List.mem_range] at h
 exact h j hj
theorem risingq_step {l : List ByteArray} (h : risingB l = true) {j : Nat} (hj : j + 1 < l.length) : ltS l[j] l[j + 1] = true := by
 have := risingq_up h hj
 rw [up_succ,Bool.and_eq_true,stAt_get hj,stAt_get (show j < l.length by omega)] at this
 exact this.2
theorem risingq_far {l : List ByteArray} (h : risingB l = true) {i : Nat} : ∀ (d : Nat) (hj : i + d + 1 < l.length),ltS l[i] l[i + d + 1] = true
 | 0,hj => risingq_step h hj
 | d + 1,hj => less_trans _ _ _ (risingq_far h d (by omega)) (risingq_step h (j := i + d + 1) hj)
theorem risingq_pair {l : List ByteArray} (h : risingB l = true) : l.Pairwise (fun a b => ltS a b = true) := by
 rw [List.pairwise_iff_getElem]
 intro i j hi hj hij
 obtain ⟨d,rfl⟩ : ∃ d,j = i + d + 1 := ⟨j - i - 1,by omega⟩
 exact risingq_far h d hj
theorem sortP_rises : ∀ {P : List (ByteArray × Ty5)},(P.Pairwise fun a b => ltS a.1 b.1 = true) -> sortP P = P
 | [],_ => rfl
 | p :: r,h => by
  rw [List.pairwise_cons] at h
  have ih := sortP_rises h.2
  unfold sortP at ih ⊢
  rw [List.foldr_cons,ih]
  cases r with
  | nil => rfl
  | cons q r => unfold insP;rw [if_pos (h.1 q (List.mem_cons_self ..))]
theorem recT_of {ls : List ByteArray} {ks : List Ty5} {P : List (ByteArray × Ty5)} (hp : P.Perm (ls.zip ks)) (hr : risingB (P.map Prod.fst) = true) : recT ls ks = .mk 8 0 ⟨#[]⟩ (P.map Prod.fst) (P.map Prod.snd) := by
 have hpw := risingq_pair hr
 have hn : (P.map Prod.fst).Nodup := hpw.imp fun {a b} h e => by
  rw [e] at h
  unfold ltS at h
  rw [less_irr] at h
  cases h
 unfold recT
 rw [← sortP_eq hp hn,sortP_rises (List.pairwise_map.1 hpw)]
open Go.RowKit Pv
theorem runV {k : FuncId} {ds : List D} {u : Value} (h : ∀ Q : D -> H -> Prop,(∀ h',Q (.raw u) h') -> wfun TT k ds [] Q) : CP (TT ()) k ds (· = .raw u) :=
 (wfun_ok (T := TT) (by kernel_rfl) (h (fun d _ => d = .raw u) fun _ => rfl)).cp fun d h' h => ⟨d,by rw [h];rfl,h⟩
theorem runW {k : FuncId} {ds : List D} {d0 : D} (hp : pureD d0 = some d0) (h : ∀ Q : D -> H -> Prop,(∀ d h',Wk d d0 -> Q d h') -> wfun TT k ds [] Q) : CP (TT ()) k ds (· = d0) := by
 have c : CW (TT ()) k ds [] fun d _ => Wk d d0 := wfun_ok (T := TT) (by kernel_rfl) (h (fun d _ => Wk d d0) fun _ _ e => e)
 exact (c.weaken (R := fun d _ => d = d0) fun d h' h => ⟨d0,h,rfl⟩).cp fun d h' h => ⟨d0,by rw [h];exact hp,rfl⟩
def tkD (t : Tkn) : D := .agg [.raw (.int .i64 t.k),.raw (.int .i64 t.n),.raw (.string t.s),.raw (.int .i64 t.a)]
theorem tk_pure (t : Tkn) : pureD (tkD t) = some (tkD t) := rfl
theorem tks_pure : ∀ l : List Tkn,pureL (l.map tkD) = some (l.map tkD)
 | [] => rfl
 | t :: r => by simp only [List.map_cons,pureL,tk_pure,tks_pure r]
theorem tks_idb (l : List Tkn) (k : Nat) : idbL k (l.map tkD) = true := pure_idbL k _ (tks_pure l)
theorem token_run (l : List Tkn) (i : Int) (Q : D -> H -> Prop) (hQ : ∀ h',Q (tkD (tokT l i)) h') : wfun TT 25 [.sl none 4 (l.map tkD),.raw (.int .i64 i)] [] Q := by
 have hno : i < 0 ∨ l.length ≤ i.toNat -> ∀ h',Q (.agg [.raw (.int .i64 0),.raw (.int .i64 0),.raw (.string ⟨#[]⟩),.raw (.int .i64 0)]) h' := fun h h' => by
  have := hQ h'
  rwa [show tokT l i = ⟨0,0,⟨#[]⟩,0⟩ by
   unfold tokT
   split
   ·rw [List.getD,List.getElem?_eq_none (by omega)]
    try rfl
   ·rfl] at this
 have hyes : 0 ≤ i -> ∀ t,l[i.toNat]? = some t -> ∀ h',Q (.agg [.raw (.int .i64 t.k),.raw (.int .i64 t.n),.raw (.string t.s),.raw (.int .i64 t.a)]) h' := fun h0 t ht h' => by
  have := hQ h'
  rwa [show tokT l i = t by
   unfold tokT
   rw [if_pos h0,List.getD,ht]
   rfl] at this
 have hl : (l.map tkD).length = l.length := List.length_map ..
 have hat : ∀ j : Nat,j < l.length -> ∃ t,l[j]? = some t ∧ (l.map tkD)[j]? = some (tkD t) := fun j hj => ⟨l[j],List.getElem?_eq_getElem hj,by rw [List.getElem?_map,List.getElem?_eq_getElem hj];rfl⟩
 clear hQ
 generalize l.map tkD = L at hl hat ⊢
 cbv
 (repeat'((first|(apply zS;kernel_rfl)|(apply zD;decide +kernel)|(apply zE;decide +kernel)|(apply zF;decide +kernel)|(apply zL;decide +kernel)|(apply zM;decide +kernel)|(apply zN;intros)|(apply zO;intros)|(apply zT;omega)|(apply zU;omega)|(apply zP;omega;intros)|(apply zQ;omega;intros)|apply zR);cbv))
 refine BinK.lss ?_ ?_ <;> intro h0 <;> cbv <;> (repeat'((first|(apply zS;kernel_rfl)|(apply zD;decide +kernel)|(apply zE;decide +kernel)|(apply zF;decide +kernel)|(apply zL;decide +kernel)|(apply zM;decide +kernel)|(apply zN;intros)|(apply zO;intros)|(apply zT;omega)|(apply zU;omega)|(apply zP;omega;intros)|(apply zQ;omega;intros)|apply zR);cbv))
 ·have hno := hno (.inl h0)
  exact ⟨hno _⟩
 refine BinK.geq ?_ ?_ <;> intro h1 <;> cbv <;> (repeat'((first|(apply zS;kernel_rfl)|(apply zD;decide +kernel)|(apply zE;decide +kernel)|(apply zF;decide +kernel)|(apply zL;decide +kernel)|(apply zM;decide +kernel)|(apply zN;intros)|(apply zO;intros)|(apply zT;omega)|(apply zU;omega)|(apply zP;omega;intros)|(apply zQ;omega;intros)|apply zR);cbv))
 ·have hno := hno (.inr (by omega))
  exact ⟨hno _⟩
 ·obtain ⟨t,ht,hT⟩ := hat i.toNat (by omega)
  have hyes := hyes h0 t ht
  obtain ⟨k,n,s,a⟩ := t
  unfold tkD at hT
  simp only at hT hyes
  refine IdxK.intro h0 hT ?_
  cbv
  (repeat'((first|(apply zS;kernel_rfl)|(apply zD;decide +kernel)|(apply zE;decide +kernel)|(apply zF;decide +kernel)|(apply zL;decide +kernel)|(apply zM;decide +kernel)|(apply zN;intros)|(apply zO;intros)|(apply zT;omega)|(apply zU;omega)|(apply zP;omega;intros)|(apply zQ;omega;intros)|apply zR);cbv))
  exact ⟨hyes _⟩
theorem token_cp (l : List Tkn) (i : Int) : CP (TT ()) 25 [.sl none 4 (l.map tkD),.raw (.int .i64 i)] (· = tkD (tokT l i)) :=
 (wfun_ok (T := TT) (by kernel_rfl) (token_run l i (fun d _ => d = tkD (tokT l i)) fun _ => rfl)).cp fun d h' h => ⟨d,by rw [h];rfl,h⟩
theorem is_cp (t : Tkn) (s : ByteArray) : CP (TT ()) 37 [tkD t,.raw (.string s)] (· = .raw (.bool (decide (t.k = 5) && decide (t.s = s)))) := by
 refine runV fun Q hQ => ?_
 obtain ⟨k,n,u,a⟩ := t
 simp only [tkD] at hQ ⊢
 cbv
 (repeat'((first|(apply zS;kernel_rfl)|(apply zD;decide +kernel)|(apply zE;decide +kernel)|(apply zF;decide +kernel)|(apply zL;decide +kernel)|(apply zM;decide +kernel)|(apply zN;intros)|(apply zO;intros)|(apply zT;omega)|(apply zU;omega)|(apply zP;omega;intros)|(apply zQ;omega;intros)|apply zR);cbv))
 refine BinK.eql ?_ ?_ <;> intro h0 <;> cbv <;> (repeat'((first|(apply zS;kernel_rfl)|(apply zD;decide +kernel)|(apply zE;decide +kernel)|(apply zF;decide +kernel)|(apply zL;decide +kernel)|(apply zM;decide +kernel)|(apply zN;intros)|(apply zO;intros)|(apply zT;omega)|(apply zU;omega)|(apply zP;omega;intros)|(apply zQ;omega;intros)|apply zR);cbv))
 ·refine BinK.seql ?_ ?_ <;> intro h1 <;> cbv <;> (repeat'((first|(apply zS;kernel_rfl)|(apply zD;decide +kernel)|(apply zE;decide +kernel)|(apply zF;decide +kernel)|(apply zL;decide +kernel)|(apply zM;decide +kernel)|(apply zN;intros)|(apply zO;intros)|(apply zT;omega)|(apply zU;omega)|(apply zP;omega;intros)|(apply zQ;omega;intros)|apply zR);cbv))
  ·rw [decide_eq_true h0,decide_eq_true h1] at hQ
   exact ⟨hQ _⟩
  ·rw [decide_eq_true h0,decide_eq_false h1] at hQ
   exact ⟨hQ _⟩
 ·rw [decide_eq_false h0] at hQ
  exact ⟨hQ _⟩
theorem misfit_cp (t : Tkn) : CP (TT ()) 27 [tkD t] (· = .raw (.int .i64 (misT t))) := by
 refine runV fun Q hQ => ?_
 obtain ⟨k,n,u,a⟩ := t
 unfold misT at hQ
 simp only [tkD] at hQ ⊢
 cbv
 (repeat'((first|(apply zS;kernel_rfl)|(apply zD;decide +kernel)|(apply zE;decide +kernel)|(apply zF;decide +kernel)|(apply zL;decide +kernel)|(apply zM;decide +kernel)|(apply zN;intros)|(apply zO;intros)|(apply zT;omega)|(apply zU;omega)|(apply zP;omega;intros)|(apply zQ;omega;intros)|apply zR);cbv))
 refine BinK.eql ?_ ?_ <;> intro h0 <;> cbv <;> (repeat'((first|(apply zS;kernel_rfl)|(apply zD;decide +kernel)|(apply zE;decide +kernel)|(apply zF;decide +kernel)|(apply zL;decide +kernel)|(apply zM;decide +kernel)|(apply zN;intros)|(apply zO;intros)|(apply zT;omega)|(apply zU;omega)|(apply zP;omega;intros)|(apply zQ;omega;intros)|apply zR);cbv))
 ·rw [if_pos h0] at hQ
  exact ⟨hQ _⟩
 ·rw [if_neg h0] at hQ
  exact ⟨hQ _⟩
def errD (c a : Int) : D := .ifc 85 (.agg [.raw (.int .i64 c),.raw (.int .i64 a)])
def refD (c a : Int) : D := .ifc 66 (.agg [errD c a])
theorem err_pure (c a : Int) : pureD (errD c a) = some (errD c a) := rfl
theorem new_cp (c a : Int) (hc : c ≠ 0) : CP (TT ()) 26 [.raw (.int .i64 c),.raw (.int .i64 a)] (· = errD c a) := by
 refine runW (err_pure c a) fun Q hQ => ?_
 have hQ := fun h' => hQ _ h' (.refl _)
 unfold errD at hQ
 cbv
 (repeat'((first|(apply zS;kernel_rfl)|(apply zD;decide +kernel)|(apply zE;decide +kernel)|(apply zF;decide +kernel)|(apply zL;decide +kernel)|(apply zM;decide +kernel)|(apply zN;intros)|(apply zO;intros)|(apply zT;omega)|(apply zU;omega)|(apply zP;omega;intros)|(apply zQ;omega;intros)|apply zR);cbv))
 exact ⟨hQ _⟩
theorem nvar_cp (s : ByteArray) (hs : s.size ≤ maxLen) : CP (TT ()) 113 [.raw (.string s)] (· = .raw (.bool (varB s))) :=
 cp_raw (callable_at Tryz.func113 (by kernel_rfl) rfl) fun S w args r => by
  obtain ⟨v,rfl,h⟩ := rdL_one r
  simp only [Pv.Rd] at h
  subst h
  exact var_any s w hs
theorem nfine_cp (s : ByteArray) (hs : s.size ≤ maxLen) : CP (TT ()) 126 [.raw (.string s)] (· = .raw (.bool (fineB s))) :=
 cp_raw (callable_at Tryz.func126 (by kernel_rfl) rfl) fun S w args r => by
  obtain ⟨v,rfl,h⟩ := rdL_one r
  simp only [Pv.Rd] at h
  subst h
  exact fine_any s w hs
def noTy : Ty5 := .mk 0 0 ⟨#[]⟩ [] []
theorem simple_wk (k : Int) : Wk (.agg [.raw (.int .i64 k),.raw (.int .i64 0),.raw (.string ⟨#[]⟩),.raw (.slice none 0 0),.raw (.slice none 0 0)]) (tyD (.mk k 0 ⟨#[]⟩ [] [])) := .agg (.cons (.refl _) (.cons (.refl _) (.cons (.refl _) (.cons (nil_any 1) (.cons (nil_any 5) .nil)))))
theorem meaning_cp (s : ByteArray) (hs : s.size ≤ maxLen) : CP (TT ()) 109 [.raw (.string s)] (· = tyD ((meanT s).getD noTy)) := by
 refine runW (ty_pure _) fun Q hQ => ?_
 have cV := nvar_cp s hs
 unfold meanT at hQ
 cbv
 (repeat'((first|(apply zS;kernel_rfl)|(apply zD;decide +kernel)|(apply zE;decide +kernel)|(apply zF;decide +kernel)|(apply zL;decide +kernel)|(apply zM;decide +kernel)|(apply zN;intros)|(apply zO;intros)|(apply zT;omega)|(apply zU;omega)|(apply zP;omega;intros)|(apply zQ;omega;intros)|apply zR);cbv))
 refine BinK.seql ?_ ?_ <;> intro h1 <;> cbv <;> (repeat'((first|(apply zS;kernel_rfl)|(apply zD;decide +kernel)|(apply zE;decide +kernel)|(apply zF;decide +kernel)|(apply zL;decide +kernel)|(apply zM;decide +kernel)|(apply zN;intros)|(apply zO;intros)|(apply zT;omega)|(apply zU;omega)|(apply zP;omega;intros)|(apply zQ;omega;intros)|apply zR);cbv))
 ·rw [if_pos h1] at hQ
  exact ⟨hQ _ _ (simple_wk 1)⟩
 refine BinK.seql ?_ ?_ <;> intro h2 <;> cbv <;> (repeat'((first|(apply zS;kernel_rfl)|(apply zD;decide +kernel)|(apply zE;decide +kernel)|(apply zF;decide +kernel)|(apply zL;decide +kernel)|(apply zM;decide +kernel)|(apply zN;intros)|(apply zO;intros)|(apply zT;omega)|(apply zU;omega)|(apply zP;omega;intros)|(apply zQ;omega;intros)|apply zR);cbv))
 ·rw [if_neg h1,if_pos h2] at hQ
  exact ⟨hQ _ _ (simple_wk 2)⟩
 refine BinK.seql ?_ ?_ <;> intro h3 <;> cbv <;> (repeat'((first|(apply zS;kernel_rfl)|(apply zD;decide +kernel)|(apply zE;decide +kernel)|(apply zF;decide +kernel)|(apply zL;decide +kernel)|(apply zM;decide +kernel)|(apply zN;intros)|(apply zO;intros)|(apply zT;omega)|(apply zU;omega)|(apply zP;omega;intros)|(apply zQ;omega;intros)|apply zR);cbv))
 ·rw [if_neg h1,if_neg h2,if_pos h3] at hQ
  exact ⟨hQ _ _ (simple_wk 3)⟩
 refine BinK.seql ?_ ?_ <;> intro h4 <;> cbv <;> (repeat'((first|(apply zS;kernel_rfl)|(apply zD;decide +kernel)|(apply zE;decide +kernel)|(apply zF;decide +kernel)|(apply zL;decide +kernel)|(apply zM;decide +kernel)|(apply zN;intros)|(apply zO;intros)|(apply zT;omega)|(apply zU;omega)|(apply zP;omega;intros)|(apply zQ;omega;intros)|apply zR);cbv))
 ·rw [if_neg h1,if_neg h2,if_neg h3,if_pos h4] at hQ
  exact ⟨hQ _ _ (simple_wk 4)⟩
 rw [if_neg h1,if_neg h2,if_neg h3,if_neg h4] at hQ
 refine CallK.one cV rfl rfl ?_
 cases hv : varB s with
 | true =>
  rw [if_pos hv] at hQ
  have hQ := fun h' => hQ (.agg [.raw (.int .i64 6),.raw (.int .i64 0),.raw (.string s),.raw (.slice none 0 0),.raw (.slice none 0 0)]) h' (.agg (.cons (.refl _) (.cons (.refl _) (.cons (.refl _) (.cons (nil_any 1) (.cons (nil_any 5) .nil))))))
  cbv
  (repeat'((first|(apply zS;kernel_rfl)|(apply zD;decide +kernel)|(apply zE;decide +kernel)|(apply zF;decide +kernel)|(apply zL;decide +kernel)|(apply zM;decide +kernel)|(apply zN;intros)|(apply zO;intros)|(apply zT;omega)|(apply zU;omega)|(apply zP;omega;intros)|(apply zQ;omega;intros)|apply zR);cbv))
  exact ⟨hQ _⟩
 | false =>
  rw [if_neg (by rw [hv];simp)] at hQ
  have hQ := fun h' => hQ _ h' (simple_wk 0)
  cbv
  (repeat'((first|(apply zS;kernel_rfl)|(apply zD;decide +kernel)|(apply zE;decide +kernel)|(apply zF;decide +kernel)|(apply zL;decide +kernel)|(apply zM;decide +kernel)|(apply zN;intros)|(apply zO;intros)|(apply zT;omega)|(apply zU;omega)|(apply zP;omega;intros)|(apply zQ;omega;intros)|apply zR);cbv))
  exact ⟨hQ _⟩
def rdH (l : List Tkn) (i : Int) : H := [.box 69 [.sl none 4 (l.map tkD),.raw (.int .i64 i)]]
theorem rdH_idb (l : List Tkn) (i : Int) : (rdH l i).all (cellIdb 1) = true := by simp [rdH,cellIdb,idbL,idb,tks_idb l]
theorem next_cw (l : List Tkn) (i : Int) : CW (TT ()) 75 [.bx 0 0] (rdH l i) fun d h' => d = tkD (tokT l i) ∧ h' = rdH l i := by
 have c : CW (TT ()) 75 [.bx 0 0] (rdH l i) fun d h' => d = tkD (tokT l i) ∧ ∃ c,h' = rdH l i ++ [c] := by
  refine wfun_ok (T := TT) (by kernel_rfl) ?_
  suffices h : ∀ Q : D -> H -> Prop,(∀ c,Q (tkD (tokT l i)) (rdH l i ++ [c])) -> wfun TT 75 [.bx 0 0] (rdH l i) Q from h _ fun c => ⟨rfl,c,rfl⟩
  intro Q hQ
  have ct := token_cp l i
  have hp := tk_pure (tokT l i)
  have hl := tks_pure l
  unfold rdH at hQ ⊢
  generalize tokT l i = t at ct hp hQ
  obtain ⟨k,n,s,a⟩ := t
  simp only [tkD] at ct hp hQ
  have hQ : ∀ c,Q (.agg [.raw (.int .i64 k),.raw (.int .i64 n),.raw (.string s),.raw (.int .i64 a)]) ([Cell.box 69 [.sl none 4 (l.map tkD),.raw (.int .i64 i)]] ++ [c]) := hQ
  generalize l.map tkD = L at ct hl hQ ⊢
  cbv
  (repeat'((first|(apply zS;kernel_rfl)|(apply zD;decide +kernel)|(apply zE;decide +kernel)|(apply zF;decide +kernel)|(apply zL;decide +kernel)|(apply zM;decide +kernel)|(apply zN;intros)|(apply zO;intros)|(apply zT;omega)|(apply zU;omega)|(apply zP;omega;intros)|(apply zQ;omega;intros)|apply zR);cbv))
  refine PCallK.one ct (by simp [pureL,pureD,hl]) hp ?_
  cbv
  (repeat'((first|(apply zS;kernel_rfl)|(apply zD;decide +kernel)|(apply zE;decide +kernel)|(apply zF;decide +kernel)|(apply zL;decide +kernel)|(apply zM;decide +kernel)|(apply zN;intros)|(apply zO;intros)|(apply zT;omega)|(apply zU;omega)|(apply zP;omega;intros)|(apply zQ;omega;intros)|apply zR);cbv))
  exact ⟨hQ _⟩
 refine c.gc ?_
 rintro d h' ⟨rfl,c,rfl⟩
 have e : (rdH l i ++ [c]).take (rdH l i).length = rdH l i := List.take_left' rfl
 exact ⟨rfl,by rw [e];exact rdH_idb l i,rfl,e⟩
theorem take_cw (l : List Tkn) (i : Int) (hi : -3000000 ≤ i ∧ i ≤ 3000000) (s : ByteArray) : CW (TT ()) 47 [.bx 0 0,.raw (.string s)] (rdH l i) fun d h' => d = .raw (.bool (isT l i s)) ∧ h' = rdH l (if isT l i s = true then i + 1 else i) := by
 refine wfun_ok (T := TT) (by kernel_rfl) ?_
 suffices h : ∀ Q : D -> H -> Prop,Q (.raw (.bool (isT l i s))) (rdH l (if isT l i s = true then i + 1 else i)) -> wfun TT 47 [.bx 0 0,.raw (.string s)] (rdH l i) Q from h _ ⟨rfl,rfl⟩
 intro Q hQ
 have cn := next_cw l i
 have ci := is_cp (tokT l i) s
 have hl := tks_idb l
 have hp := tk_pure (tokT l i)
 have e : (decide ((tokT l i).k = 5) && decide ((tokT l i).s = s)) = isT l i s := rfl
 rw [e] at ci
 clear e
 generalize isT l i s = b at ci hQ
 generalize tokT l i = t at cn ci hp
 obtain ⟨k,n,u,a⟩ := t
 simp only [tkD] at cn ci hp
 unfold rdH at cn hQ ⊢
 generalize l.map tkD = L at cn hl hQ ⊢
 cbv
 (repeat'((first|(apply zS;kernel_rfl)|(apply zD;decide +kernel)|(apply zE;decide +kernel)|(apply zF;decide +kernel)|(apply zL;decide +kernel)|(apply zM;decide +kernel)|(apply zN;intros)|(apply zO;intros)|(apply zT;omega)|(apply zU;omega)|(apply zP;omega;intros)|(apply zQ;omega;intros)|apply zR);cbv))
 refine CallK.mut cn ?_
 rintro d h' ⟨rfl,rfl⟩
 cbv
 (repeat'((first|(apply zS;kernel_rfl)|(apply zD;decide +kernel)|(apply zE;decide +kernel)|(apply zF;decide +kernel)|(apply zL;decide +kernel)|(apply zM;decide +kernel)|(apply zN;intros)|(apply zO;intros)|(apply zT;omega)|(apply zU;omega)|(apply zP;omega;intros)|(apply zQ;omega;intros)|apply zR);cbv))
 refine CallK.one ci (cons_pure hp rfl) rfl ?_
 cases b with
 | false =>
  have hQ : Q (.raw (.bool false)) [Cell.box 69 [.sl none 4 L,.raw (.int .i64 i)]] := hQ
  cbv
  (repeat'((first|(apply zS;kernel_rfl)|(apply zD;decide +kernel)|(apply zE;decide +kernel)|(apply zF;decide +kernel)|(apply zL;decide +kernel)|(apply zM;decide +kernel)|(apply zN;intros)|(apply zO;intros)|(apply zT;omega)|(apply zU;omega)|(apply zP;omega;intros)|(apply zQ;omega;intros)|apply zR);cbv))
  exact ⟨hQ⟩
 | true =>
  have hQ : ∀ r,r = i + 1 -> Q (.raw (.bool true)) [Cell.box 69 [.sl none 4 L,.raw (.int .i64 r)]] := fun r hr => by
   rw [hr]
   exact hQ
  cbv
  (repeat'((first|(apply zS;kernel_rfl)|(apply zD;decide +kernel)|(apply zE;decide +kernel)|(apply zF;decide +kernel)|(apply zL;decide +kernel)|(apply zM;decide +kernel)|(apply zN;intros)|(apply zO;intros)|(apply zT;omega)|(apply zU;omega)|(apply zP;omega;intros)|(apply zQ;omega;intros)|apply zR);cbv))
  rename_i r hr
  exact ⟨hQ r hr⟩
theorem refuse_cx (l : List Tkn) (i c : Int) (hc : c ≠ 0) : CX (TT ()) 45 [.bx 0 0,.raw (.int .i64 c)] (rdH l i) fun b d h' => b = false ∧ d = refD c (tokT l i).a ∧ h' = rdH l i := by
 refine yfun_ok (T := TT) (by kernel_rfl) ?_
 suffices h : ∀ Q : Bool -> D -> H -> Prop,Q false (refD c (tokT l i).a) (rdH l i) -> yfun TT 45 [.bx 0 0,.raw (.int .i64 c)] (rdH l i) Q from h _ ⟨rfl,rfl,rfl⟩
 intro Q hQ
 have cn := next_cw l i
 have ce := new_cp c (tokT l i).a hc
 unfold refD errD at hQ
 unfold errD at ce
 generalize tokT l i = t at cn ce hQ
 obtain ⟨k,n,u,a⟩ := t
 simp only [tkD] at cn ce hQ
 unfold rdH at cn hQ ⊢
 generalize l.map tkD = L at cn hQ ⊢
 cbv
 (repeat'((first|(apply zS;kernel_rfl)|(apply zD;decide +kernel)|(apply zE;decide +kernel)|(apply zF;decide +kernel)|(apply zL;decide +kernel)|(apply zM;decide +kernel)|(apply zN;intros)|(apply zO;intros)|(apply zT;omega)|(apply zU;omega)|(apply zP;omega;intros)|(apply zQ;omega;intros)|apply zR);cbv))
 refine XCallK.mut cn ?_
 rintro d h' ⟨rfl,rfl⟩
 cbv
 (repeat'((first|(apply zS;kernel_rfl)|(apply zD;decide +kernel)|(apply zE;decide +kernel)|(apply zF;decide +kernel)|(apply zL;decide +kernel)|(apply zM;decide +kernel)|(apply zN;intros)|(apply zO;intros)|(apply zT;omega)|(apply zU;omega)|(apply zP;omega;intros)|(apply zQ;omega;intros)|apply zR);cbv))
 refine XCallK.one ce rfl rfl ?_
 cbv
 (repeat'((first|(apply zS;kernel_rfl)|(apply zD;decide +kernel)|(apply zE;decide +kernel)|(apply zF;decide +kernel)|(apply zL;decide +kernel)|(apply zM;decide +kernel)|(apply zN;intros)|(apply zO;intros)|(apply zT;omega)|(apply zU;omega)|(apply zP;omega;intros)|(apply zQ;omega;intros)|apply zR);cbv))
 exact ⟨hQ⟩
def rdc (l : List Tkn) (i : Int) : Cell := .box 69 [.sl none 4 (l.map tkD),.raw (.int .i64 i)]
theorem next_ext (l : List Tkn) (i : Int) (rest : H) : CW (TT ()) 75 [.bx 0 0] (rdc l i :: rest) fun d h' => d = tkD (tokT l i) ∧ h' = rdc l i :: rest :=
 ((next_cw l i).ext rest rfl (rdH_idb l i) (by rintro d h' ⟨rfl,rfl⟩;exact ⟨rfl,rfl,rdH_idb l i⟩)).mono fun d h' ⟨h0,⟨h1,h2⟩,h3⟩ => ⟨h1,by rw [h3,h2];rfl⟩
theorem take_ext (l : List Tkn) (i : Int) (hi : -3000000 ≤ i ∧ i ≤ 3000000) (s : ByteArray) (rest : H) : CW (TT ()) 47 [.bx 0 0,.raw (.string s)] (rdc l i :: rest) fun d h' => d = .raw (.bool (isT l i s)) ∧ h' = rdc l (if isT l i s = true then i + 1 else i) :: rest :=
 ((take_cw l i hi s).ext rest rfl (rdH_idb l i) (by rintro d h' ⟨rfl,rfl⟩;exact ⟨rfl,rfl,rdH_idb l _⟩)).mono fun d h' ⟨h0,⟨h1,h2⟩,h3⟩ => ⟨h1,by rw [h3,h2];rfl⟩
theorem refuse_ext (l : List Tkn) (i c : Int) (hc : c ≠ 0) (rest : H) : CX (TT ()) 45 [.bx 0 0,.raw (.int .i64 c)] (rdc l i :: rest) fun b d h' => b = false ∧ d = refD c (tokT l i).a ∧ h' = rdc l i :: rest :=
 ((refuse_cx l i c hc).ext rest rfl (rdH_idb l i) (by rintro b d h' ⟨rfl,rfl,rfl⟩;exact ⟨rfl,rfl,rdH_idb l i⟩)).mono fun b d h' ⟨h0,⟨h1,h2,h4⟩,h3⟩ => ⟨h1,h2,by rw [h3,h4];rfl⟩
theorem misT_ne (t : Tkn) : misT t ≠ 0 := by
 unfold misT
 split <;> omega
theorem want_cx (l : List Tkn) (i : Int) (hi : -3000000 ≤ i ∧ i ≤ 3000000) (s : ByteArray) : CX (TT ()) 76 [.bx 0 0,.raw (.string s)] (rdH l i) fun b d h' => (isT l i s = true ∧ b = true ∧ d = .tup [] ∧ h' = rdH l (i + 1)) ∨ (isT l i s = false ∧ b = false ∧ d = refD (misT (tokT l i)) (tokT l i).a ∧ h' = rdH l i) := by
 refine yfun_ok (T := TT) (by kernel_rfl) ?_
 suffices h : ∀ Q : Bool -> D -> H -> Prop,(isT l i s = true -> Q true (.tup []) (rdH l (i + 1))) -> (isT l i s = false -> Q false (refD (misT (tokT l i)) (tokT l i).a) (rdH l i)) -> yfun TT 76 [.bx 0 0,.raw (.string s)] (rdH l i) Q from h _ (fun h => .inl ⟨h,rfl,rfl,rfl⟩) fun h => .inr ⟨h,rfl,rfl,rfl⟩
 intro Q h1 h2
 have ct := take_cw l i hi s
 have cn := next_cw l i
 have cm := misfit_cp (tokT l i)
 have cr := refuse_cx l i (misT (tokT l i)) (misT_ne _)
 have hp := tk_pure (tokT l i)
 have hL := tks_idb l
 unfold refD errD at h2 cr
 generalize isT l i s = b at ct h1 h2
 generalize misT (tokT l i) = c at cm cr h2
 generalize tokT l i = t at cn cm cr h2 hp
 obtain ⟨k,n,u,a⟩ := t
 simp only [tkD] at cn cm cr h2 hp
 unfold rdH at ct cn cr h1 h2 ⊢
 generalize l.map tkD = L at ct cn cr h1 h2 hL ⊢
 cbv
 (repeat'((first|(apply zS;kernel_rfl)|(apply zD;decide +kernel)|(apply zE;decide +kernel)|(apply zF;decide +kernel)|(apply zL;decide +kernel)|(apply zM;decide +kernel)|(apply zN;intros)|(apply zO;intros)|(apply zT;omega)|(apply zU;omega)|(apply zP;omega;intros)|(apply zQ;omega;intros)|apply zR);cbv))
 refine XCallK.mut ct ?_
 rintro d h' ⟨rfl,rfl⟩
 cases b with
 | true =>
  have h1 := h1 rfl
  rw [if_pos rfl]
  obtain ⟨j,hj⟩ : ∃ j,j = i + 1 := ⟨_,rfl⟩
  rw [← hj] at h1 ⊢
  cbv
  (repeat'((first|(apply zS;kernel_rfl)|(apply zD;decide +kernel)|(apply zE;decide +kernel)|(apply zF;decide +kernel)|(apply zL;decide +kernel)|(apply zM;decide +kernel)|(apply zN;intros)|(apply zO;intros)|(apply zT;omega)|(apply zU;omega)|(apply zP;omega;intros)|(apply zQ;omega;intros)|apply zR);cbv))
  exact ⟨h1⟩
 | false =>
  have h2 := h2 rfl
  rw [if_neg (by simp)]
  cbv
  (repeat'((first|(apply zS;kernel_rfl)|(apply zD;decide +kernel)|(apply zE;decide +kernel)|(apply zF;decide +kernel)|(apply zL;decide +kernel)|(apply zM;decide +kernel)|(apply zN;intros)|(apply zO;intros)|(apply zT;omega)|(apply zU;omega)|(apply zP;omega;intros)|(apply zQ;omega;intros)|apply zR);cbv))
  refine XCallK.mut cn ?_
  rintro d h' ⟨rfl,rfl⟩
  cbv
  (repeat'((first|(apply zS;kernel_rfl)|(apply zD;decide +kernel)|(apply zE;decide +kernel)|(apply zF;decide +kernel)|(apply zL;decide +kernel)|(apply zM;decide +kernel)|(apply zN;intros)|(apply zO;intros)|(apply zT;omega)|(apply zU;omega)|(apply zP;omega;intros)|(apply zQ;omega;intros)|apply zR);cbv))
  refine XCallK.one cm (cons_pure hp rfl) rfl ?_
  cbv
  (repeat'((first|(apply zS;kernel_rfl)|(apply zD;decide +kernel)|(apply zE;decide +kernel)|(apply zF;decide +kernel)|(apply zL;decide +kernel)|(apply zM;decide +kernel)|(apply zN;intros)|(apply zO;intros)|(apply zT;omega)|(apply zU;omega)|(apply zP;omega;intros)|(apply zQ;omega;intros)|apply zR);cbv))
  refine XCallK.both cr ?_
  rintro b d h' ⟨rfl,rfl,rfl⟩
  cbv
  exact ⟨h2⟩
theorem want_ext (l : List Tkn) (i : Int) (hi : -3000000 ≤ i ∧ i ≤ 3000000) (s : ByteArray) (rest : H) : CX (TT ()) 76 [.bx 0 0, .raw (.string s)] (rdc l i :: rest) fun b d h' => (isT l i s = true ∧ b = true ∧ d = .tup [] ∧ h' = rdc l (i + 1) :: rest) ∨ (isT l i s = false ∧ b = false ∧ d = refD (misT (tokT l i)) (tokT l i).a ∧ h' = rdc l i :: rest) :=
  ((want_cx l i hi s).ext rest rfl (rdH_idb l i) (by
    rintro b d h' (⟨_, rfl, rfl, rfl⟩ | ⟨_, rfl, rfl, rfl⟩)
    · exact ⟨rfl, rfl, rdH_idb l _⟩
    · exact ⟨rfl, rfl, rdH_idb l i⟩)).mono fun b d h' ⟨h0, h1, h3⟩ => by
    rcases h1 with ⟨q1, q2, q3, q4⟩ | ⟨q1, q2, q3, q4⟩
    · exact .inl ⟨q1, q2, q3, by rw [h3, q4]; rfl⟩
    · exact .inr ⟨q1, q2, q3, by rw [h3, q4]; rfl⟩
def outQ (R : Rs) (f : Int -> H) : Bool -> D -> H -> Prop := fun b d h' => match R with
 | .ok t to => b = true ∧ d = tyD t ∧ h' = f to
 | .bad e p => b = false ∧ d = refD e p ∧ ∃ j,h' = f j
theorem outQ_ok {f : Int -> H} {Q : Bool -> D -> H -> Prop} {R : Rs} (h : ∀ b d h',outQ R f b d h' -> Q b d h') {t : Ty5} {to : Int} (e : R = .ok t to) : Q true (tyD t) (f to) := h _ _ _ (by rw [e];exact ⟨rfl,rfl,rfl⟩)
theorem outQ_bad {f : Int -> H} {Q : Bool -> D -> H -> Prop} {R : Rs} (h : ∀ b d h',outQ R f b d h' -> Q b d h') {e p : Int} (he : R = .bad e p) (j : Int) : Q false (refD e p) (f j) := h _ _ _ (by rw [he];exact ⟨rfl,rfl,j,rfl⟩)
theorem outQ_ext {P : Program} {k : FuncId} {ds : List D} {l : List Tkn} {i : Int} {R : Rs} (c : CX P k ds (rdH l i) (outQ R (rdH l))) (hd : idbL 1 ds = true) (rest : H) : CX P k ds (rdc l i :: rest) (outQ R fun j => rdc l j :: rest) :=
 (c.ext rest hd (rdH_idb l i) (by
  intro b d h' h
  unfold outQ at h
  split at h
  ·obtain ⟨rfl,rfl,rfl⟩ := h
   exact ⟨rfl,pure_idb 1 _ (ty_pure _),rdH_idb l _⟩
  ·obtain ⟨rfl,rfl,j,rfl⟩ := h
   exact ⟨rfl,rfl,rdH_idb l _⟩)).mono fun b d h' ⟨h0,h1,h3⟩ => by
  unfold outQ at h1 ⊢
  split at h1
  ·obtain ⟨q1,q2,q3⟩ := h1
   exact ⟨q1,q2,by rw [h3,q3];rfl⟩
  ·obtain ⟨q1,q2,j,q3⟩ := h1
   exact ⟨q1,q2,j,by rw [h3,q3];rfl⟩
theorem ty_nodeR (t : Ty5) : ∃ n nm L K,tyD t = .agg [.raw (.int .i64 (match t with | .mk k _ _ _ _ => k)),.raw (.int .i64 n),.raw (.string nm),.sl none 1 L,.sl none 5 K] ∧ (∀ m,idbL m L = true) ∧ ∀ m,idbL m K = true := by
 obtain ⟨k,n,nm,ls,ks⟩ := t
 exact ⟨n,nm,_,_,rfl,fun m => pure_idbL m _ (strs_pure ls),fun m => pure_idbL m _ (tys_pure ks)⟩
theorem gc_out {P : Program} {k : FuncId} {ds : List D} {l : List Tkn} {i : Int} {R : Rs} (c : CX P k ds (rdH l i) fun b d h' => ∃ rest,outQ R (fun j => rdc l j :: rest) b d h') : CX P k ds (rdH l i) (outQ R (rdH l)) := by
 refine c.gc ?_
 rintro b d h' ⟨rest,h⟩
 have e : ∀ j,(rdc l j :: rest).take (rdH l i).length = rdH l j := fun j => rfl
 unfold outQ at h ⊢
 split at h
 ·obtain ⟨rfl,rfl,rfl⟩ := h
  exact ⟨pure_idb _ _ (ty_pure _),by rw [e];exact rdH_idb l _,rfl,rfl,e _⟩
 ·obtain ⟨rfl,rfl,j,rfl⟩ := h
  exact ⟨rfl,by rw [e];exact rdH_idb l _,rfl,rfl,j,e _⟩
theorem meanT_k {s : ByteArray} {u : Ty5} (h : meanT s = some u) : (match u with | .mk k _ _ _ _ => k) ≠ 0 := by
 unfold meanT at h
 split at h
 ·cases h;decide
 split at h
 ·cases h;decide
 split at h
 ·cases h;decide
 split at h
 ·cases h;decide
 split at h
 ·cases h;show (6 : Int) ≠ 0;decide
 ·cases h
theorem word_run (l : List Tkn) (i : Int) (hi : -3000000 ≤ i ∧ i ≤ 3000000) (hs : (tokT l i).s.size ≤ maxLen) (Q : Bool -> D -> H -> Prop) (hQ : ∀ rest b d h',outQ (wordS l i) (fun j => rdc l j :: rest) b d h' -> Q b d h') : yfun TT 78 [.bx 0 0] (rdH l i) Q := by
 have hok : ∀ u,(tokT l i).k = 4 -> meanT (tokT l i).s = some u -> ∀ rest j,j = i + 1 -> Q true (tyD u) (rdc l j :: rest) := fun u h4 hu rest j hj => by
  rw [hj]
  exact outQ_ok (hQ rest) (by unfold wordS;rw [if_pos h4,hu])
 have hbad : ((tokT l i).k ≠ 4 ∨ meanT (tokT l i).s = none) -> ∀ rest,Q false (refD (misT (tokT l i)) (tokT l i).a) (rdc l i :: rest) := fun h rest => outQ_bad (hQ rest) (by
  unfold wordS
  by_cases h4 : (tokT l i).k = 4
  ·rw [if_pos h4,h.resolve_left (fun e => e h4)]
   try rfl
  ·rw [if_neg h4]
   rfl) i
 have cn := next_ext l i
 have cm := misfit_cp (tokT l i)
 have cr := refuse_ext l i (misT (tokT l i)) (misT_ne _)
 have cw := meaning_cp (tokT l i).s hs
 have hp := tk_pure (tokT l i)
 have hL := tks_idb l
 clear hQ hs
 unfold refD errD at hbad cr
 generalize misT (tokT l i) = c at cm cr hbad
 generalize tokT l i = t at cn cm cr cw hp hok hbad
 obtain ⟨k,n,u',a⟩ := t
 simp only [tkD] at cn cm cr cw hp hok hbad
 unfold rdH
 unfold rdc at cn cr hok hbad
 generalize l.map tkD = L at cn cr hok hbad hL ⊢
 rcases hm : meanT u' with _ | u
 ·rw [hm] at hbad cw
  have hbad := hbad (.inr rfl)
  have hpu := ty_pure noTy
  simp only [Option.getD_none] at cw
  have e : tyD noTy = .agg [.raw (.int .i64 0),.raw (.int .i64 0),.raw (.string ⟨#[]⟩),.sl none 1 [],.sl none 5 []] := rfl
  rw [e] at cw hpu
  clear hok e
  cbv
  (repeat'((first|(apply zS;kernel_rfl)|(apply zD;decide +kernel)|(apply zE;decide +kernel)|(apply zF;decide +kernel)|(apply zL;decide +kernel)|(apply zM;decide +kernel)|(apply zN;intros)|(apply zO;intros)|(apply zT;omega)|(apply zU;omega)|(apply zP;omega;intros)|(apply zQ;omega;intros)|apply zR);cbv))
  refine XCallK.mut (cn _) ?_
  rintro d h' ⟨rfl,rfl⟩
  cbv
  (repeat'((first|(apply zS;kernel_rfl)|(apply zD;decide +kernel)|(apply zE;decide +kernel)|(apply zF;decide +kernel)|(apply zL;decide +kernel)|(apply zM;decide +kernel)|(apply zN;intros)|(apply zO;intros)|(apply zT;omega)|(apply zU;omega)|(apply zP;omega;intros)|(apply zQ;omega;intros)|apply zR);cbv))
  refine XCallK.one cw rfl hpu ?_
  cbv
  (repeat'((first|(apply zS;kernel_rfl)|(apply zD;decide +kernel)|(apply zE;decide +kernel)|(apply zF;decide +kernel)|(apply zL;decide +kernel)|(apply zM;decide +kernel)|(apply zN;intros)|(apply zO;intros)|(apply zT;omega)|(apply zU;omega)|(apply zP;omega;intros)|(apply zQ;omega;intros)|apply zR);cbv))
  refine BinK.neq ?_ ?_ <;> intro h4 <;> cbv <;> (repeat'((first|(apply zS;kernel_rfl)|(apply zD;decide +kernel)|(apply zE;decide +kernel)|(apply zF;decide +kernel)|(apply zL;decide +kernel)|(apply zM;decide +kernel)|(apply zN;intros)|(apply zO;intros)|(apply zT;omega)|(apply zU;omega)|(apply zP;omega;intros)|(apply zQ;omega;intros)|apply zR);cbv))
  all_goals
   refine XCallK.one cm (cons_pure hp rfl) rfl ?_
   cbv
   (repeat'((first|(apply zS;kernel_rfl)|(apply zD;decide +kernel)|(apply zE;decide +kernel)|(apply zF;decide +kernel)|(apply zL;decide +kernel)|(apply zM;decide +kernel)|(apply zN;intros)|(apply zO;intros)|(apply zT;omega)|(apply zU;omega)|(apply zP;omega;intros)|(apply zQ;omega;intros)|apply zR);cbv))
   refine XCallK.both (cr _) ?_
   rintro b d h' ⟨rfl,rfl,rfl⟩
   cbv
   exact ⟨hbad _⟩
 ·have hk0 := meanT_k hm
  rw [hm] at hok cw
  have hok := fun h4 => hok u h4 rfl
  have hpu := ty_pure u
  simp only [Option.getD_some] at cw
  obtain ⟨n1,nm1,L1,K1,f1,_,_⟩ := ty_nodeR u
  rw [f1] at cw hok hpu
  generalize (match u with | .mk k _ _ _ _ => k) = uk at hk0 cw hok hpu
  cbv
  (repeat'((first|(apply zS;kernel_rfl)|(apply zD;decide +kernel)|(apply zE;decide +kernel)|(apply zF;decide +kernel)|(apply zL;decide +kernel)|(apply zM;decide +kernel)|(apply zN;intros)|(apply zO;intros)|(apply zT;omega)|(apply zU;omega)|(apply zP;omega;intros)|(apply zQ;omega;intros)|apply zR);cbv))
  refine XCallK.mut (cn _) ?_
  rintro d h' ⟨rfl,rfl⟩
  cbv
  (repeat'((first|(apply zS;kernel_rfl)|(apply zD;decide +kernel)|(apply zE;decide +kernel)|(apply zF;decide +kernel)|(apply zL;decide +kernel)|(apply zM;decide +kernel)|(apply zN;intros)|(apply zO;intros)|(apply zT;omega)|(apply zU;omega)|(apply zP;omega;intros)|(apply zQ;omega;intros)|apply zR);cbv))
  refine XCallK.one cw rfl hpu ?_
  cbv
  (repeat'((first|(apply zS;kernel_rfl)|(apply zD;decide +kernel)|(apply zE;decide +kernel)|(apply zF;decide +kernel)|(apply zL;decide +kernel)|(apply zM;decide +kernel)|(apply zN;intros)|(apply zO;intros)|(apply zT;omega)|(apply zU;omega)|(apply zP;omega;intros)|(apply zQ;omega;intros)|apply zR);cbv))
  refine BinK.neq ?_ ?_ <;> intro h4 <;> cbv <;> (repeat'((first|(apply zS;kernel_rfl)|(apply zD;decide +kernel)|(apply zE;decide +kernel)|(apply zF;decide +kernel)|(apply zL;decide +kernel)|(apply zM;decide +kernel)|(apply zN;intros)|(apply zO;intros)|(apply zT;omega)|(apply zU;omega)|(apply zP;omega;intros)|(apply zQ;omega;intros)|apply zR);cbv))
  ·have hbad := hbad (.inl h4)
   refine XCallK.one cm (cons_pure hp rfl) rfl ?_
   cbv
   (repeat'((first|(apply zS;kernel_rfl)|(apply zD;decide +kernel)|(apply zE;decide +kernel)|(apply zF;decide +kernel)|(apply zL;decide +kernel)|(apply zM;decide +kernel)|(apply zN;intros)|(apply zO;intros)|(apply zT;omega)|(apply zU;omega)|(apply zP;omega;intros)|(apply zQ;omega;intros)|apply zR);cbv))
   refine XCallK.both (cr _) ?_
   rintro b d h' ⟨rfl,rfl,rfl⟩
   cbv
   exact ⟨hbad _⟩
  ·rename_i r hr
   exact ⟨hok h4 _ r hr⟩
theorem word_cx (l : List Tkn) (i : Int) (hi : -3000000 ≤ i ∧ i ≤ 3000000) (hs : (tokT l i).s.size ≤ maxLen) : CX (TT ()) 78 [.bx 0 0] (rdH l i) (outQ (wordS l i) (rdH l)) :=
 gc_out (yfun_ok (T := TT) (by kernel_rfl) (word_run l i hi hs _ fun rest b d h' h => ⟨rest,h⟩))
theorem tokT_k {l : List Tkn} {i : Int} (h : (tokT l i).k ≠ 0) : 0 ≤ i ∧ i.toNat < l.length := by
 unfold tokT at h
 split at h
 ·rename_i h0
  refine ⟨h0,?_⟩
  rcases Nat.lt_or_ge i.toNat l.length with h1 | h1
  ·exact h1
  ·rw [List.getD,List.getElem?_eq_none h1] at h
   exact absurd rfl h
 ·exact absurd rfl h
theorem isT_lt {l : List Tkn} {i : Int} {s : ByteArray} (h : isT l i s = true) : 0 ≤ i ∧ i.toNat < l.length := by
 unfold isT at h
 simp only [Bool.and_eq_true,decide_eq_true_eq] at h
 exact tokT_k (by rw [h.1];decide)
theorem labelS_le {rd : Int -> Rs} {l : List Tkn} (h : ∀ i t to,rd i = .ok t to -> to ≤ l.length) {next : Int -> List ByteArray -> List Ty5 -> Rs} (hn : ∀ i ls ks t to,next i ls ks = .ok t to -> to ≤ l.length) {j : Int} {ls : List ByteArray} {ks : List Ty5} {t : Ty5} {to : Int} (e : labelS rd l next j ls ks = .ok t to) : to ≤ l.length := by
 unfold labelS wrongT at e
 split at e
 ·split at e
  ·cases e
  split at e
  ·split at e
   ·exact hn _ _ _ _ _ e
   ·cases e
  ·cases e
 ·cases e
theorem fieldsS_le {recT : List ByteArray -> List Ty5 -> Ty5} {rd : Int -> Rs} {l : List Tkn} (h : ∀ i t to,rd i = .ok t to -> to ≤ l.length) : ∀ {f : Nat} {i : Int} {ls : List ByteArray} {ks : List Ty5} {t : Ty5} {to : Int},fieldsS recT rd l f i ls ks = .ok t to -> to ≤ l.length
 | 0,i,ls,ks,t,to,e => by simp [fieldsS,wrongT] at e
 | f + 1,i,ls,ks,t,to,e => by
  simp only [fieldsS] at e
  split at e
  ·rename_i hi
   cases e
   have := isT_lt hi
   omega
  split at e
  ·simp [wrongT] at e
  ·exact labelS_le h (fun _ _ _ _ _ e => fieldsS_le h e) e
theorem simpleS_le {recT : List ByteArray -> List Ty5 -> Ty5} {rd : Int -> Rs} {l : List Tkn} (h : ∀ i t to,rd i = .ok t to -> to ≤ l.length) {i : Int} {t : Ty5} {to : Int} (e : simpleS recT rd l i = .ok t to) : to ≤ l.length := by
 unfold simpleS at e
 split at e
 ·rename_i hi
  cases e
  have := isT_lt hi
  omega
 split at e
 ·split at e
  ·rename_i u to' hr
   unfold wrongT at e
   split at e
   ·rename_i hi
    cases e
    have := isT_lt hi
    omega
   ·cases e
  ·cases e
 split at e
 ·exact fieldsS_le h e
 ·unfold wordS wrongT at e
  split at e
  ·rename_i hk
   split at e
   ·cases e
    have := tokT_k (l := l) (i := i) (by rw [hk];decide)
    omega
   ·cases e
  ·cases e
theorem readS_le {recT : List ByteArray -> List Ty5 -> Ty5} {l : List Tkn} : ∀ {n : Nat} {i : Int} {t : Ty5} {to : Int},readS recT l n i = .ok t to -> to ≤ l.length
 | 0,i,t,to,e => by simp [readS] at e
 | n + 1,i,t,to,e => by
  simp only [readS] at e
  split at e
  ·rename_i u to' hs
   have h1 := simpleS_le (fun i t to e => readS_le e) hs
   split at e
   ·split at e
    ·rename_i v to2 hr
     have h2 := readS_le hr
     cases e
     exact h2
    ·cases e
   ·cases e
    exact h1
  ·cases e
def inR (i : Int) : Prop := -2000000 ≤ i ∧ i ≤ 2000000
def Reads1 (k : FuncId) (l : List Tkn) (deep : Int) (R : Int -> Rs) : Prop := ∀ j,inR j -> CX (TT ()) k [.bx 0 0,.raw (.int .i64 deep)] (rdH l j) (outQ (R j) (rdH l))
theorem Reads1.ext {k : FuncId} {l : List Tkn} {deep : Int} {R : Int -> Rs} (h : Reads1 k l deep R) {j : Int} (hj : inR j) (rest : H) : CX (TT ()) k [.bx 0 0,.raw (.int .i64 deep)] (rdc l j :: rest) (outQ (R j) fun j => rdc l j :: rest) := outQ_ext (h j hj) rfl rest
def outW (R : Rs) (f : Int -> H) : Bool -> D -> H -> Prop := fun b d h' => match R with
 | .ok t to => b = true ∧ Wk d (tyD t) ∧ h' = f to
 | .bad e p => b = false ∧ d = refD e p ∧ ∃ j,h' = f j
theorem outW_ok {f : H -> Int -> H} {Q : Bool -> D -> H -> Prop} {R : Rs} (h : ∀ rest b d h',outW R (f rest) b d h' -> Q b d h') {t : Ty5} {to : Int} (e : R = .ok t to) {d : D} (hd : Wk d (tyD t)) (rest : H) : Q true d (f rest to) := h rest _ _ _ (by rw [e];exact ⟨rfl,hd,rfl⟩)
theorem outW_bad {f : H -> Int -> H} {Q : Bool -> D -> H -> Prop} {R : Rs} (h : ∀ rest b d h',outW R (f rest) b d h' -> Q b d h') {e p : Int} (he : R = .bad e p) (rest : H) (j : Int) : Q false (refD e p) (f rest j) := h rest _ _ _ (by rw [he];exact ⟨rfl,rfl,j,rfl⟩)
theorem gc_outW {P : Program} {k : FuncId} {ds : List D} {l : List Tkn} {i : Int} {R : Rs} (c : CX P k ds (rdH l i) fun b d h' => ∃ rest,outW R (fun j => rdc l j :: rest) b d h') : CX P k ds (rdH l i) (outQ R (rdH l)) :=
 gc_out (c.weaken fun b d h' ⟨rest,h⟩ => by
  cases R with
  | ok t to => exact ⟨tyD t,h.2.1,rest,h.1,rfl,h.2.2⟩
  | bad e p => exact ⟨d,.refl _,rest,h⟩)
theorem bad_ends {P : Program} {k : FuncId} {ds : List D} {h : H} {e p : Int} {f : Int -> H} (c : CX P k ds h (outQ (.bad e p) f)) : CX P k ds h fun b d h' => b = false ∧ d = refD e p ∧ ∃ j,h' = f j := c
theorem ok_ends {P : Program} {k : FuncId} {ds : List D} {h : H} {t : Ty5} {to : Int} {f : Int -> H} (c : CX P k ds h (outQ (.ok t to) f)) : CW P k ds h fun d h' => d = tyD t ∧ h' = f to := c.cw fun b d h' ⟨h1,h2,h3⟩ => ⟨h1,h2,h3⟩
theorem simple_run (recT : List ByteArray -> List Ty5 -> Ty5) (rd : Int -> Rs) (l : List Tkn) (hll : l.length ≤ 1000000) (hs : ∀ j,(tokT l j).s.size ≤ maxLen) (deep : Int) (hd : -2000 ≤ deep ∧ deep ≤ 64) (hrd : ∀ i t to,rd i = .ok t to -> to ≤ l.length ∧ i < to)
  (hw : Reads1 32 l (deep + 1) rd) (hf : Reads1 77 l (deep + 1) fun j => fieldsS recT rd l (l.length + 1) j [] []) (i : Int) (hi : inR i)
  (Q : Bool -> D -> H -> Prop) (hQ : ∀ rest b d h',outW (simpleS recT rd l i) (fun j => rdc l j :: rest) b d h' -> Q b d h') : yfun TT 46 [.bx 0 0,.raw (.int .i64 deep)] (rdH l i) Q := by
 have hi' := hi
 unfold inR at hi'
 have t1 := take_ext l i (by omega) ⟨#[63]⟩
 have t2 := take_ext l i (by omega) ⟨#[40]⟩
 have t3 := take_ext l i (by omega) ⟨#[123]⟩
 have hL := tks_idb l
 unfold rdH
 cases h1 : isT l i ⟨#[63]⟩ with
 | true =>
  have hok : ∀ rest j,j = i + 1 -> Q true _ (rdc l j :: rest) := fun rest j hj => by rw [hj];exact outW_ok (f := fun rest j => rdc l j :: rest) hQ (by unfold simpleS;rw [if_pos h1]) (simple_wk 5) rest
  rw [h1,if_pos rfl] at t1
  clear hQ hw hf t2 t3 h1
  obtain ⟨i1,hi1⟩ : ∃ i1,i1 = i + 1 := ⟨_,rfl⟩
  have hok := fun rest => hok rest i1 hi1
  rw [← hi1] at t1
  unfold rdc at *
  generalize l.map tkD = L at *
  cbv
  (repeat'((first|(apply zS;kernel_rfl)|(apply zD;decide +kernel)|(apply zE;decide +kernel)|(apply zF;decide +kernel)|(apply zL;decide +kernel)|(apply zM;decide +kernel)|(apply zN;intros)|(apply zO;intros)|(apply zT;omega)|(apply zU;omega)|(apply zP;omega;intros)|(apply zQ;omega;intros)|apply zR);cbv))
  refine XCallK.mut (t1 _) ?_
  rintro d h' ⟨rfl,rfl⟩
  cbv
  (repeat'((first|(apply zS;kernel_rfl)|(apply zD;decide +kernel)|(apply zE;decide +kernel)|(apply zF;decide +kernel)|(apply zL;decide +kernel)|(apply zM;decide +kernel)|(apply zN;intros)|(apply zO;intros)|(apply zT;omega)|(apply zU;omega)|(apply zP;omega;intros)|(apply zQ;omega;intros)|apply zR);cbv))
  exact ⟨hok _⟩
 | false =>
 rw [h1,if_neg (by simp)] at t1
 cases h2 : isT l i ⟨#[40]⟩ with
 | true =>
  rw [h2,if_pos rfl] at t2
  have hS : simpleS recT rd l i = match rd (i + 1) with
   | .ok t to => if isT l to ⟨#[41]⟩ = true then .ok t (to + 1) else wrongT l to
   | .bad e p => .bad e p := by
   unfold simpleS
   rw [if_neg (by rw [h1];simp),if_pos h2]
   try rfl
  have hlt := isT_lt h2
  have w1 := fun rest => hw.ext (j := i + 1) ⟨by omega,by omega⟩ rest
  obtain ⟨dp,hdp⟩ : ∃ dp,dp = deep + 1 := ⟨_,rfl⟩
  rw [← hdp] at w1
  obtain ⟨i1,hi1⟩ : ∃ i1,i1 = i + 1 := ⟨_,rfl⟩
  cases hr : rd (i + 1) with
  | bad e p =>
   rw [hr] at hS w1
   have hbad := fun rest j => outW_bad (f := fun rest j => rdc l j :: rest) hQ hS rest j
   have w1 := fun rest => bad_ends (w1 rest)
   rw [← hi1] at t2 w1
   clear hQ hw hf t3 h1 h2 hS hr hs hrd
   unfold refD errD at hbad w1
   unfold rdc at *
   generalize l.map tkD = L at *
   cbv
   (repeat'((first|(apply zS;kernel_rfl)|(apply zD;decide +kernel)|(apply zE;decide +kernel)|(apply zF;decide +kernel)|(apply zL;decide +kernel)|(apply zM;decide +kernel)|(apply zN;intros)|(apply zO;intros)|(apply zT;omega)|(apply zU;omega)|(apply zP;omega;intros)|(apply zQ;omega;intros)|apply zR);cbv))
   refine XCallK.mut (t1 _) ?_
   rintro d h' ⟨rfl,rfl⟩
   cbv
   (repeat'((first|(apply zS;kernel_rfl)|(apply zD;decide +kernel)|(apply zE;decide +kernel)|(apply zF;decide +kernel)|(apply zL;decide +kernel)|(apply zM;decide +kernel)|(apply zN;intros)|(apply zO;intros)|(apply zT;omega)|(apply zU;omega)|(apply zP;omega;intros)|(apply zQ;omega;intros)|apply zR);cbv))
   refine XCallK.mut (t2 _) ?_
   rintro d h' ⟨rfl,rfl⟩
   cbv
   (repeat'((first|(apply zS;kernel_rfl)|(apply zD;decide +kernel)|(apply zE;decide +kernel)|(apply zF;decide +kernel)|(apply zL;decide +kernel)|(apply zM;decide +kernel)|(apply zN;intros)|(apply zO;intros)|(apply zT;omega)|(apply zU;omega)|(apply zP;omega;intros)|(apply zQ;omega;intros)|apply zR);cbv))
   rename_i r hr
   obtain rfl : r = dp := by omega
   refine XCallK.both (w1 _) ?_
   rintro b d h' ⟨rfl,rfl,j,rfl⟩
   cbv
   exact ⟨hbad _ _⟩
  | ok t to =>
   rw [hr] at hS w1
   have hto := hrd _ _ _ hr
   have w1 := fun rest => ok_ends (w1 rest)
   have n1 := want_ext l to (by omega) ⟨#[41]⟩
   have hpt := ty_pure t
   have cm := misfit_cp (tokT l to)
   rw [← hi1] at t2 w1
   obtain ⟨n',nm',L',K',f',_,_⟩ := ty_nodeR t
   cases h3 : isT l to ⟨#[41]⟩ with
   | true =>
    have hS : simpleS recT rd l i = .ok t (to + 1) := by
     rw [hS]
     exact if_pos h3
    have hok : ∀ rest,Q true (tyD t) (rdc l (to + 1) :: rest) := fun rest => outW_ok (f := fun rest j => rdc l j :: rest) hQ hS (.refl _) rest
    have n1 : ∀ rest,CX (TT ()) 76 [.bx 0 0,.raw (.string ⟨#[41]⟩)] (rdc l to :: rest) fun b d h' => b = true ∧ d = .tup [] ∧ h' = rdc l (to + 1) :: rest := fun rest => (n1 rest).mono fun b d h' h => by
     rcases h with ⟨_,q1,q2,q3⟩ | ⟨q,_⟩
     ·exact ⟨q1,q2,q3⟩
     ·rw [h3] at q
      cases q
    obtain ⟨to1,hto1⟩ : ∃ to1,to1 = to + 1 := ⟨_,rfl⟩
    rw [← hto1] at hok n1
    rw [f'] at hok w1 hpt
    generalize (match t with | .mk k _ _ _ _ => k) = tk at hok w1 hpt
    clear hQ hw hf t3 h1 h2 hS hr hs hrd f' cm h3
    unfold rdc at *
    generalize l.map tkD = L at *
    cbv
    (repeat'((first|(apply zS;kernel_rfl)|(apply zD;decide +kernel)|(apply zE;decide +kernel)|(apply zF;decide +kernel)|(apply zL;decide +kernel)|(apply zM;decide +kernel)|(apply zN;intros)|(apply zO;intros)|(apply zT;omega)|(apply zU;omega)|(apply zP;omega;intros)|(apply zQ;omega;intros)|apply zR);cbv))
    refine XCallK.mut (t1 _) ?_
    rintro d h' ⟨rfl,rfl⟩
    cbv
    (repeat'((first|(apply zS;kernel_rfl)|(apply zD;decide +kernel)|(apply zE;decide +kernel)|(apply zF;decide +kernel)|(apply zL;decide +kernel)|(apply zM;decide +kernel)|(apply zN;intros)|(apply zO;intros)|(apply zT;omega)|(apply zU;omega)|(apply zP;omega;intros)|(apply zQ;omega;intros)|apply zR);cbv))
    refine XCallK.mut (t2 _) ?_
    rintro d h' ⟨rfl,rfl⟩
    cbv
    (repeat'((first|(apply zS;kernel_rfl)|(apply zD;decide +kernel)|(apply zE;decide +kernel)|(apply zF;decide +kernel)|(apply zL;decide +kernel)|(apply zM;decide +kernel)|(apply zN;intros)|(apply zO;intros)|(apply zT;omega)|(apply zU;omega)|(apply zP;omega;intros)|(apply zQ;omega;intros)|apply zR);cbv))
    rename_i r hr
    obtain rfl : r = dp := by omega
    refine XCallK.mut (w1 _) ?_
    rintro d h' ⟨rfl,rfl⟩
    cbv
    (repeat'((first|(apply zS;kernel_rfl)|(apply zD;decide +kernel)|(apply zE;decide +kernel)|(apply zF;decide +kernel)|(apply zL;decide +kernel)|(apply zM;decide +kernel)|(apply zN;intros)|(apply zO;intros)|(apply zT;omega)|(apply zU;omega)|(apply zP;omega;intros)|(apply zQ;omega;intros)|apply zR);cbv))
    refine XCallK.both (n1 _) ?_
    rintro b d h' ⟨rfl,rfl,rfl⟩
    cbv
    (repeat'((first|(apply zS;kernel_rfl)|(apply zD;decide +kernel)|(apply zE;decide +kernel)|(apply zF;decide +kernel)|(apply zL;decide +kernel)|(apply zM;decide +kernel)|(apply zN;intros)|(apply zO;intros)|(apply zT;omega)|(apply zU;omega)|(apply zP;omega;intros)|(apply zQ;omega;intros)|apply zR);cbv))
    exact ⟨hok _⟩
   | false =>
    have hS : simpleS recT rd l i = wrongT l to := by
     rw [hS]
     exact if_neg (by rw [h3];simp)
    have hbad := fun rest j => outW_bad (f := fun rest j => rdc l j :: rest) hQ hS rest j
    have n1 : ∀ rest,CX (TT ()) 76 [.bx 0 0,.raw (.string ⟨#[41]⟩)] (rdc l to :: rest) fun b d h' => b = false ∧ d = refD (misT (tokT l to)) (tokT l to).a ∧ h' = rdc l to :: rest := fun rest => (n1 rest).mono fun b d h' h => by
     rcases h with ⟨q,_⟩ | ⟨_,q1,q2,q3⟩
     ·rw [h3] at q
      cases q
     ·exact ⟨q1,q2,q3⟩
    rw [f'] at w1 hpt
    generalize (match t with | .mk k _ _ _ _ => k) = tk at w1 hpt
    clear hQ hw hf t3 h1 h2 hS hr hs hrd f' h3 cm
    unfold refD errD at hbad n1
    generalize misT (tokT l to) = c at n1 hbad
    generalize (tokT l to).a = a at n1 hbad
    unfold rdc at *
    generalize l.map tkD = L at *
    cbv
    (repeat'((first|(apply zS;kernel_rfl)|(apply zD;decide +kernel)|(apply zE;decide +kernel)|(apply zF;decide +kernel)|(apply zL;decide +kernel)|(apply zM;decide +kernel)|(apply zN;intros)|(apply zO;intros)|(apply zT;omega)|(apply zU;omega)|(apply zP;omega;intros)|(apply zQ;omega;intros)|apply zR);cbv))
    refine XCallK.mut (t1 _) ?_
    rintro d h' ⟨rfl,rfl⟩
    cbv
    (repeat'((first|(apply zS;kernel_rfl)|(apply zD;decide +kernel)|(apply zE;decide +kernel)|(apply zF;decide +kernel)|(apply zL;decide +kernel)|(apply zM;decide +kernel)|(apply zN;intros)|(apply zO;intros)|(apply zT;omega)|(apply zU;omega)|(apply zP;omega;intros)|(apply zQ;omega;intros)|apply zR);cbv))
    refine XCallK.mut (t2 _) ?_
    rintro d h' ⟨rfl,rfl⟩
    cbv
    (repeat'((first|(apply zS;kernel_rfl)|(apply zD;decide +kernel)|(apply zE;decide +kernel)|(apply zF;decide +kernel)|(apply zL;decide +kernel)|(apply zM;decide +kernel)|(apply zN;intros)|(apply zO;intros)|(apply zT;omega)|(apply zU;omega)|(apply zP;omega;intros)|(apply zQ;omega;intros)|apply zR);cbv))
    rename_i r hr
    obtain rfl : r = dp := by omega
    refine XCallK.mut (w1 _) ?_
    rintro d h' ⟨rfl,rfl⟩
    cbv
    (repeat'((first|(apply zS;kernel_rfl)|(apply zD;decide +kernel)|(apply zE;decide +kernel)|(apply zF;decide +kernel)|(apply zL;decide +kernel)|(apply zM;decide +kernel)|(apply zN;intros)|(apply zO;intros)|(apply zT;omega)|(apply zU;omega)|(apply zP;omega;intros)|(apply zQ;omega;intros)|apply zR);cbv))
    refine XCallK.both (n1 _) ?_
    rintro b d h' ⟨rfl,rfl,rfl⟩
    cbv
    exact ⟨hbad _ _⟩
 | false =>
 rw [h2,if_neg (by simp)] at t2
 cases h3 : isT l i ⟨#[123]⟩ with
 | true =>
  rw [h3,if_pos rfl] at t3
  have hS : simpleS recT rd l i = fieldsS recT rd l (l.length + 1) (i + 1) [] [] := by
   unfold simpleS
   rw [if_neg (by rw [h1];simp),if_neg (by rw [h2];simp),if_pos h3]
  have hlt := isT_lt h3
  have w1 := fun rest => hf.ext (j := i + 1) ⟨by omega,by omega⟩ rest
  obtain ⟨dp,hdp⟩ : ∃ dp,dp = deep + 1 := ⟨_,rfl⟩
  rw [← hdp] at w1
  obtain ⟨i1,hi1⟩ : ∃ i1,i1 = i + 1 := ⟨_,rfl⟩
  cases hr : fieldsS recT rd l (l.length + 1) (i + 1) [] [] with
  | bad e p =>
   rw [hr] at hS w1
   have hbad := fun rest j => outW_bad (f := fun rest j => rdc l j :: rest) hQ hS rest j
   have w1 := fun rest => bad_ends (w1 rest)
   rw [← hi1] at t3 w1
   clear hQ hw hf h1 h2 h3 hS hr hs hrd
   unfold refD errD at hbad w1
   unfold rdc at *
   generalize l.map tkD = L at *
   cbv
   (repeat'((first|(apply zS;kernel_rfl)|(apply zD;decide +kernel)|(apply zE;decide +kernel)|(apply zF;decide +kernel)|(apply zL;decide +kernel)|(apply zM;decide +kernel)|(apply zN;intros)|(apply zO;intros)|(apply zT;omega)|(apply zU;omega)|(apply zP;omega;intros)|(apply zQ;omega;intros)|apply zR);cbv))
   refine XCallK.mut (t1 _) ?_
   rintro d h' ⟨rfl,rfl⟩
   cbv
   (repeat'((first|(apply zS;kernel_rfl)|(apply zD;decide +kernel)|(apply zE;decide +kernel)|(apply zF;decide +kernel)|(apply zL;decide +kernel)|(apply zM;decide +kernel)|(apply zN;intros)|(apply zO;intros)|(apply zT;omega)|(apply zU;omega)|(apply zP;omega;intros)|(apply zQ;omega;intros)|apply zR);cbv))
   refine XCallK.mut (t2 _) ?_
   rintro d h' ⟨rfl,rfl⟩
   cbv
   (repeat'((first|(apply zS;kernel_rfl)|(apply zD;decide +kernel)|(apply zE;decide +kernel)|(apply zF;decide +kernel)|(apply zL;decide +kernel)|(apply zM;decide +kernel)|(apply zN;intros)|(apply zO;intros)|(apply zT;omega)|(apply zU;omega)|(apply zP;omega;intros)|(apply zQ;omega;intros)|apply zR);cbv))
   refine XCallK.mut (t3 _) ?_
   rintro d h' ⟨rfl,rfl⟩
   cbv
   (repeat'((first|(apply zS;kernel_rfl)|(apply zD;decide +kernel)|(apply zE;decide +kernel)|(apply zF;decide +kernel)|(apply zL;decide +kernel)|(apply zM;decide +kernel)|(apply zN;intros)|(apply zO;intros)|(apply zT;omega)|(apply zU;omega)|(apply zP;omega;intros)|(apply zQ;omega;intros)|apply zR);cbv))
   rename_i r hr
   obtain rfl : r = dp := by omega
   refine XCallK.both (w1 _) ?_
   rintro b d h' ⟨rfl,rfl,j,rfl⟩
   cbv
   exact ⟨hbad _ _⟩
  | ok t to =>
   rw [hr] at hS w1
   have w1 := fun rest => ok_ends (w1 rest)
   have hpt := ty_pure t
   have hok : ∀ rest,Q true (tyD t) (rdc l to :: rest) := fun rest => outW_ok (f := fun rest j => rdc l j :: rest) hQ hS (.refl _) rest
   rw [← hi1] at t3 w1
   obtain ⟨n',nm',L',K',f',_,_⟩ := ty_nodeR t
   rw [f'] at hok w1 hpt
   generalize (match t with | .mk k _ _ _ _ => k) = tk at hok w1 hpt
   clear hQ hw hf h1 h2 h3 hS hr hs hrd f'
   unfold rdc at *
   generalize l.map tkD = L at *
   cbv
   (repeat'((first|(apply zS;kernel_rfl)|(apply zD;decide +kernel)|(apply zE;decide +kernel)|(apply zF;decide +kernel)|(apply zL;decide +kernel)|(apply zM;decide +kernel)|(apply zN;intros)|(apply zO;intros)|(apply zT;omega)|(apply zU;omega)|(apply zP;omega;intros)|(apply zQ;omega;intros)|apply zR);cbv))
   refine XCallK.mut (t1 _) ?_
   rintro d h' ⟨rfl,rfl⟩
   cbv
   (repeat'((first|(apply zS;kernel_rfl)|(apply zD;decide +kernel)|(apply zE;decide +kernel)|(apply zF;decide +kernel)|(apply zL;decide +kernel)|(apply zM;decide +kernel)|(apply zN;intros)|(apply zO;intros)|(apply zT;omega)|(apply zU;omega)|(apply zP;omega;intros)|(apply zQ;omega;intros)|apply zR);cbv))
   refine XCallK.mut (t2 _) ?_
   rintro d h' ⟨rfl,rfl⟩
   cbv
   (repeat'((first|(apply zS;kernel_rfl)|(apply zD;decide +kernel)|(apply zE;decide +kernel)|(apply zF;decide +kernel)|(apply zL;decide +kernel)|(apply zM;decide +kernel)|(apply zN;intros)|(apply zO;intros)|(apply zT;omega)|(apply zU;omega)|(apply zP;omega;intros)|(apply zQ;omega;intros)|apply zR);cbv))
   refine XCallK.mut (t3 _) ?_
   rintro d h' ⟨rfl,rfl⟩
   cbv
   (repeat'((first|(apply zS;kernel_rfl)|(apply zD;decide +kernel)|(apply zE;decide +kernel)|(apply zF;decide +kernel)|(apply zL;decide +kernel)|(apply zM;decide +kernel)|(apply zN;intros)|(apply zO;intros)|(apply zT;omega)|(apply zU;omega)|(apply zP;omega;intros)|(apply zQ;omega;intros)|apply zR);cbv))
   rename_i r hr
   obtain rfl : r = dp := by omega
   refine XCallK.mut (w1 _) ?_
   rintro d h' ⟨rfl,rfl⟩
   cbv
   (repeat'((first|(apply zS;kernel_rfl)|(apply zD;decide +kernel)|(apply zE;decide +kernel)|(apply zF;decide +kernel)|(apply zL;decide +kernel)|(apply zM;decide +kernel)|(apply zN;intros)|(apply zO;intros)|(apply zT;omega)|(apply zU;omega)|(apply zP;omega;intros)|(apply zQ;omega;intros)|apply zR);cbv))
   exact ⟨hok _⟩
 | false =>
  rw [h3,if_neg (by simp)] at t3
  have hS : simpleS recT rd l i = wordS l i := by
   unfold simpleS
   rw [if_neg (by rw [h1];simp),if_neg (by rw [h2];simp),if_neg (by rw [h3];simp)]
  have w1 := fun rest => outQ_ext (word_cx l i (by omega) (hs i)) rfl rest
  cases hr : wordS l i with
  | bad e p =>
   rw [hr] at hS w1
   have hbad := fun rest j => outW_bad (f := fun rest j => rdc l j :: rest) hQ hS rest j
   have w1 := fun rest => bad_ends (w1 rest)
   clear hQ hw hf h1 h2 h3 hS hr hs hrd
   unfold refD errD at hbad w1
   unfold rdc at *
   generalize l.map tkD = L at *
   cbv
   (repeat'((first|(apply zS;kernel_rfl)|(apply zD;decide +kernel)|(apply zE;decide +kernel)|(apply zF;decide +kernel)|(apply zL;decide +kernel)|(apply zM;decide +kernel)|(apply zN;intros)|(apply zO;intros)|(apply zT;omega)|(apply zU;omega)|(apply zP;omega;intros)|(apply zQ;omega;intros)|apply zR);cbv))
   refine XCallK.mut (t1 _) ?_
   rintro d h' ⟨rfl,rfl⟩
   cbv
   (repeat'((first|(apply zS;kernel_rfl)|(apply zD;decide +kernel)|(apply zE;decide +kernel)|(apply zF;decide +kernel)|(apply zL;decide +kernel)|(apply zM;decide +kernel)|(apply zN;intros)|(apply zO;intros)|(apply zT;omega)|(apply zU;omega)|(apply zP;omega;intros)|(apply zQ;omega;intros)|apply zR);cbv))
   refine XCallK.mut (t2 _) ?_
   rintro d h' ⟨rfl,rfl⟩
   cbv
   (repeat'((first|(apply zS;kernel_rfl)|(apply zD;decide +kernel)|(apply zE;decide +kernel)|(apply zF;decide +kernel)|(apply zL;decide +kernel)|(apply zM;decide +kernel)|(apply zN;intros)|(apply zO;intros)|(apply zT;omega)|(apply zU;omega)|(apply zP;omega;intros)|(apply zQ;omega;intros)|apply zR);cbv))
   refine XCallK.mut (t3 _) ?_
   rintro d h' ⟨rfl,rfl⟩
   cbv
   (repeat'((first|(apply zS;kernel_rfl)|(apply zD;decide +kernel)|(apply zE;decide +kernel)|(apply zF;decide +kernel)|(apply zL;decide +kernel)|(apply zM;decide +kernel)|(apply zN;intros)|(apply zO;intros)|(apply zT;omega)|(apply zU;omega)|(apply zP;omega;intros)|(apply zQ;omega;intros)|apply zR);cbv))
   refine XCallK.both (w1 _) ?_
   rintro b d h' ⟨rfl,rfl,j,rfl⟩
   cbv
   exact ⟨hbad _ _⟩
  | ok t to =>
   rw [hr] at hS w1
   have w1 := fun rest => ok_ends (w1 rest)
   have hpt := ty_pure t
   have hok : ∀ rest,Q true (tyD t) (rdc l to :: rest) := fun rest => outW_ok (f := fun rest j => rdc l j :: rest) hQ hS (.refl _) rest
   obtain ⟨n',nm',L',K',f',_,_⟩ := ty_nodeR t
   rw [f'] at hok w1 hpt
   generalize (match t with | .mk k _ _ _ _ => k) = tk at hok w1 hpt
   clear hQ hw hf h1 h2 h3 hS hr hs hrd f'
   unfold rdc at *
   generalize l.map tkD = L at *
   cbv
   (repeat'((first|(apply zS;kernel_rfl)|(apply zD;decide +kernel)|(apply zE;decide +kernel)|(apply zF;decide +kernel)|(apply zL;decide +kernel)|(apply zM;decide +kernel)|(apply zN;intros)|(apply zO;intros)|(apply zT;omega)|(apply zU;omega)|(apply zP;omega;intros)|(apply zQ;omega;intros)|apply zR);cbv))
   refine XCallK.mut (t1 _) ?_
   rintro d h' ⟨rfl,rfl⟩
   cbv
   (repeat'((first|(apply zS;kernel_rfl)|(apply zD;decide +kernel)|(apply zE;decide +kernel)|(apply zF;decide +kernel)|(apply zL;decide +kernel)|(apply zM;decide +kernel)|(apply zN;intros)|(apply zO;intros)|(apply zT;omega)|(apply zU;omega)|(apply zP;omega;intros)|(apply zQ;omega;intros)|apply zR);cbv))
   refine XCallK.mut (t2 _) ?_
   rintro d h' ⟨rfl,rfl⟩
   cbv
   (repeat'((first|(apply zS;kernel_rfl)|(apply zD;decide +kernel)|(apply zE;decide +kernel)|(apply zF;decide +kernel)|(apply zL;decide +kernel)|(apply zM;decide +kernel)|(apply zN;intros)|(apply zO;intros)|(apply zT;omega)|(apply zU;omega)|(apply zP;omega;intros)|(apply zQ;omega;intros)|apply zR);cbv))
   refine XCallK.mut (t3 _) ?_
   rintro d h' ⟨rfl,rfl⟩
   cbv
   (repeat'((first|(apply zS;kernel_rfl)|(apply zD;decide +kernel)|(apply zE;decide +kernel)|(apply zF;decide +kernel)|(apply zL;decide +kernel)|(apply zM;decide +kernel)|(apply zN;intros)|(apply zO;intros)|(apply zT;omega)|(apply zU;omega)|(apply zP;omega;intros)|(apply zQ;omega;intros)|apply zR);cbv))
   refine XCallK.mut (w1 _) ?_
   rintro d h' ⟨rfl,rfl⟩
   cbv
   (repeat'((first|(apply zS;kernel_rfl)|(apply zD;decide +kernel)|(apply zE;decide +kernel)|(apply zF;decide +kernel)|(apply zL;decide +kernel)|(apply zM;decide +kernel)|(apply zN;intros)|(apply zO;intros)|(apply zT;omega)|(apply zU;omega)|(apply zP;omega;intros)|(apply zQ;omega;intros)|apply zR);cbv))
   exact ⟨hok _⟩
theorem pfun_cp (a b : Ty5) : CP (TT ()) 48 [tyD a,tyD b] (· = tyD (.mk 7 0 ⟨#[]⟩ [] [a,b])) := by
 refine runW (ty_pure _) fun Q hQ => ?_
 have hQ := fun tag h' => hQ (.agg [.raw (.int .i64 7),.raw (.int .i64 0),.raw (.string ⟨#[]⟩),.raw (.slice none 0 0),.sl tag 5 [tyD a,tyD b]]) h' (.agg (.cons (.refl _) (.cons (.refl _) (.cons (.refl _) (.cons (nil_any 1) (.cons (untag_any _ _ _) .nil))))))
 obtain ⟨n1,m1,L1,K1,f1,_,_⟩ := ty_nodeR a
 obtain ⟨n2,m2,L2,K2,f2,_,_⟩ := ty_nodeR b
 rw [f1,f2] at hQ ⊢
 generalize (match a with | .mk k _ _ _ _ => k) = ka at hQ ⊢
 generalize (match b with | .mk k _ _ _ _ => k) = kb at hQ ⊢
 cbv
 (repeat'((first|(apply zS;kernel_rfl)|(apply zD;decide +kernel)|(apply zE;decide +kernel)|(apply zF;decide +kernel)|(apply zL;decide +kernel)|(apply zM;decide +kernel)|(apply zN;intros)|(apply zO;intros)|(apply zT;omega)|(apply zU;omega)|(apply zP;omega;intros)|(apply zQ;omega;intros)|apply zR);cbv))
 exact ⟨hQ _ _⟩
theorem whole_deep (l : List Tkn) (deep : Int) (hd : 64 < deep) (i : Int) (Q : Bool -> D -> H -> Prop) (hQ : ∀ rest,Q false (refD 7 (tokT l i).a) (rdc l i :: rest)) : yfun TT 32 [.bx 0 0,.raw (.int .i64 deep)] (rdH l i) Q := by
 have cr := refuse_ext l i 7 (by decide)
 unfold refD errD at hQ cr
 generalize (tokT l i).a = a at hQ cr
 unfold rdH
 unfold rdc at *
 generalize l.map tkD = L at *
 cbv
 (repeat'((first|(apply zS;kernel_rfl)|(apply zD;decide +kernel)|(apply zE;decide +kernel)|(apply zF;decide +kernel)|(apply zL;decide +kernel)|(apply zM;decide +kernel)|(apply zN;intros)|(apply zO;intros)|(apply zT;omega)|(apply zU;omega)|(apply zP;omega;intros)|(apply zQ;omega;intros)|apply zR);cbv))
 refine XCallK.both (cr _) ?_
 rintro b d h' ⟨rfl,rfl,rfl⟩
 cbv
 exact ⟨hQ _⟩
theorem whole_run (rs rd : Int -> Rs) (l : List Tkn) (hll : l.length ≤ 1000000) (deep : Int) (hd : -2000 ≤ deep ∧ deep ≤ 64) (hrs : ∀ i t to,rs i = .ok t to -> to ≤ l.length ∧ i < to)
  (hsm : Reads1 46 l deep rs) (hw : Reads1 32 l (deep + 1) rd) (i : Int) (hi : inR i) (R : Rs)
  (hR : R = match rs i with
   | .ok t to => if isT l to ⟨#[45,62]⟩ = true then match rd (to + 1) with
     | .ok u to2 => .ok (.mk 7 0 ⟨#[]⟩ [] [t,u]) to2
     | .bad e p => .bad e p
    else .ok t to
   | .bad e p => .bad e p)
  (Q : Bool -> D -> H -> Prop) (hQ : ∀ rest b d h',outW R (fun j => rdc l j :: rest) b d h' -> Q b d h') : yfun TT 32 [.bx 0 0,.raw (.int .i64 deep)] (rdH l i) Q := by
 have s1 := fun rest => hsm.ext hi rest
 have hi' := hi
 unfold inR at hi'
 have hL := tks_idb l
 unfold rdH
 obtain ⟨dp,hdp⟩ : ∃ dp,dp = deep + 1 := ⟨_,rfl⟩
 rw [← hdp] at hw
 cases h1 : rs i with
 | bad e p =>
  rw [h1] at hR s1
  have hbad := fun rest j => outW_bad (f := fun rest j => rdc l j :: rest) hQ hR rest j
  have s1 := fun rest => bad_ends (s1 rest)
  clear hQ hw hsm hR hrs h1
  unfold refD errD at hbad s1
  unfold rdc at *
  generalize l.map tkD = L at *
  cbv
  (repeat'((first|(apply zS;kernel_rfl)|(apply zD;decide +kernel)|(apply zE;decide +kernel)|(apply zF;decide +kernel)|(apply zL;decide +kernel)|(apply zM;decide +kernel)|(apply zN;intros)|(apply zO;intros)|(apply zT;omega)|(apply zU;omega)|(apply zP;omega;intros)|(apply zQ;omega;intros)|apply zR);cbv))
  refine XCallK.both (s1 _) ?_
  rintro b d h' ⟨rfl,rfl,j,rfl⟩
  cbv
  exact ⟨hbad _ _⟩
 | ok t to =>
 rw [h1] at hR s1
 have s1 := fun rest => ok_ends (s1 rest)
 have hto := hrs _ _ _ h1
 have t1 := take_ext l to (by omega) ⟨#[45,62]⟩
 have hpt := ty_pure t
 cases h2 : isT l to ⟨#[45,62]⟩ with
 | false =>
  have hR : R = .ok t to := hR.trans (if_neg (by rw [h2];simp))
  rw [h2,if_neg (by simp)] at t1
  have hok : ∀ rest,Q true (tyD t) (rdc l to :: rest) := fun rest => outW_ok (f := fun rest j => rdc l j :: rest) hQ hR (.refl _) rest
  obtain ⟨n',nm',L',K',f',_,_⟩ := ty_nodeR t
  rw [f'] at hok s1 hpt
  generalize (match t with | .mk k _ _ _ _ => k) = tk at hok s1 hpt
  clear hQ hw hsm hR hrs h1 h2 f'
  unfold rdc at *
  generalize l.map tkD = L at *
  cbv
  (repeat'((first|(apply zS;kernel_rfl)|(apply zD;decide +kernel)|(apply zE;decide +kernel)|(apply zF;decide +kernel)|(apply zL;decide +kernel)|(apply zM;decide +kernel)|(apply zN;intros)|(apply zO;intros)|(apply zT;omega)|(apply zU;omega)|(apply zP;omega;intros)|(apply zQ;omega;intros)|apply zR);cbv))
  refine XCallK.mut (s1 _) ?_
  rintro d h' ⟨rfl,rfl⟩
  cbv
  (repeat'((first|(apply zS;kernel_rfl)|(apply zD;decide +kernel)|(apply zE;decide +kernel)|(apply zF;decide +kernel)|(apply zL;decide +kernel)|(apply zM;decide +kernel)|(apply zN;intros)|(apply zO;intros)|(apply zT;omega)|(apply zU;omega)|(apply zP;omega;intros)|(apply zQ;omega;intros)|apply zR);cbv))
  refine XCallK.mut (t1 _) ?_
  rintro d h' ⟨rfl,rfl⟩
  cbv
  (repeat'((first|(apply zS;kernel_rfl)|(apply zD;decide +kernel)|(apply zE;decide +kernel)|(apply zF;decide +kernel)|(apply zL;decide +kernel)|(apply zM;decide +kernel)|(apply zN;intros)|(apply zO;intros)|(apply zT;omega)|(apply zU;omega)|(apply zP;omega;intros)|(apply zQ;omega;intros)|apply zR);cbv))
  exact ⟨hok _⟩
 | true =>
 have hlt := isT_lt h2
 have hR : R = match rd (to + 1) with
     | .ok u to2 => .ok (.mk 7 0 ⟨#[]⟩ [] [t,u]) to2
     | .bad e p => .bad e p := hR.trans (if_pos h2)
 rw [h2,if_pos rfl] at t1
 have w1 := fun rest => hw.ext (j := to + 1) ⟨by omega,by omega⟩ rest
 obtain ⟨to1,hto1⟩ : ∃ to1,to1 = to + 1 := ⟨_,rfl⟩
 rw [← hto1] at t1
 cases h3 : rd (to + 1) with
 | bad e p =>
  rw [h3] at hR w1
  have hbad := fun rest j => outW_bad (f := fun rest j => rdc l j :: rest) hQ hR rest j
  have w1 := fun rest => bad_ends (w1 rest)
  rw [← hto1] at w1
  obtain ⟨n',nm',L',K',f',_,_⟩ := ty_nodeR t
  rw [f'] at s1 hpt
  generalize (match t with | .mk k _ _ _ _ => k) = tk at s1 hpt
  clear hQ hw hsm hR hrs h1 h2 f' h3
  unfold refD errD at hbad w1
  unfold rdc at *
  generalize l.map tkD = L at *
  cbv
  (repeat'((first|(apply zS;kernel_rfl)|(apply zD;decide +kernel)|(apply zE;decide +kernel)|(apply zF;decide +kernel)|(apply zL;decide +kernel)|(apply zM;decide +kernel)|(apply zN;intros)|(apply zO;intros)|(apply zT;omega)|(apply zU;omega)|(apply zP;omega;intros)|(apply zQ;omega;intros)|apply zR);cbv))
  refine XCallK.mut (s1 _) ?_
  rintro d h' ⟨rfl,rfl⟩
  cbv
  (repeat'((first|(apply zS;kernel_rfl)|(apply zD;decide +kernel)|(apply zE;decide +kernel)|(apply zF;decide +kernel)|(apply zL;decide +kernel)|(apply zM;decide +kernel)|(apply zN;intros)|(apply zO;intros)|(apply zT;omega)|(apply zU;omega)|(apply zP;omega;intros)|(apply zQ;omega;intros)|apply zR);cbv))
  refine XCallK.mut (t1 _) ?_
  rintro d h' ⟨rfl,rfl⟩
  cbv
  (repeat'((first|(apply zS;kernel_rfl)|(apply zD;decide +kernel)|(apply zE;decide +kernel)|(apply zF;decide +kernel)|(apply zL;decide +kernel)|(apply zM;decide +kernel)|(apply zN;intros)|(apply zO;intros)|(apply zT;omega)|(apply zU;omega)|(apply zP;omega;intros)|(apply zQ;omega;intros)|apply zR);cbv))
  refine YDrawK.turn 1 [0] (by decide +kernel) (by kernel_rfl) ?_
  cbv
  (repeat'((first|(apply zS;kernel_rfl)|(apply zD;decide +kernel)|(apply zE;decide +kernel)|(apply zF;decide +kernel)|(apply zL;decide +kernel)|(apply zM;decide +kernel)|(apply zN;intros)|(apply zO;intros)|(apply zT;omega)|(apply zU;omega)|(apply zP;omega;intros)|(apply zQ;omega;intros)|apply zR);cbv))
  rename_i r hr
  obtain rfl : r = dp := by omega
  refine ⟨.inr ⟨_,w1 _,?_⟩⟩
  refine ⟨⟨(show (4 : Nat) < 6 by decide),by kernel_rfl,by kernel_rfl⟩,FreeX.one rfl rfl rfl ?_,?_⟩
  ·repeat' (first | refine List.forall_mem_cons.2 ⟨rfl,?_⟩ | exact fun _ h => absurd h List.not_mem_nil)
  ·rintro d h' ⟨rfl,j,rfl⟩
   exact ⟨hbad _ _⟩
 | ok u to2 =>
  rw [h3] at hR w1
  have w1 := fun rest => ok_ends (w1 rest)
  rw [← hto1] at w1
  have cF := pfun_cp t u
  have hpu := ty_pure u
  have hpf := ty_pure (.mk 7 0 ⟨#[]⟩ [] [t,u])
  have hok : ∀ rest,Q true (tyD (.mk 7 0 ⟨#[]⟩ [] [t,u])) (rdc l to2 :: rest) := fun rest => outW_ok (f := fun rest j => rdc l j :: rest) hQ hR (.refl _) rest
  generalize (Ty5.mk 7 0 ⟨#[]⟩ [] [t,u]) = v at cF hpf hok
  obtain ⟨n1,nm1,L1,K1,f1,_,_⟩ := ty_nodeR t
  obtain ⟨n2,nm2,L2,K2,f2,_,_⟩ := ty_nodeR u
  obtain ⟨n3,nm3,L3,K3,f3,_,_⟩ := ty_nodeR v
  rw [f1] at s1 hpt cF
  rw [f2] at w1 hpu cF
  rw [f3] at cF hpf hok
  generalize (match t with | .mk k _ _ _ _ => k) = tk at s1 hpt cF
  generalize (match u with | .mk k _ _ _ _ => k) = uk at w1 hpu cF
  generalize (match v with | .mk k _ _ _ _ => k) = vk at cF hpf hok
  clear hQ hw hsm hR hrs h1 h2 f1 f2 f3 h3
  unfold rdc at *
  generalize l.map tkD = L at *
  cbv
  (repeat'((first|(apply zS;kernel_rfl)|(apply zD;decide +kernel)|(apply zE;decide +kernel)|(apply zF;decide +kernel)|(apply zL;decide +kernel)|(apply zM;decide +kernel)|(apply zN;intros)|(apply zO;intros)|(apply zT;omega)|(apply zU;omega)|(apply zP;omega;intros)|(apply zQ;omega;intros)|apply zR);cbv))
  refine XCallK.mut (s1 _) ?_
  rintro d h' ⟨rfl,rfl⟩
  cbv
  (repeat'((first|(apply zS;kernel_rfl)|(apply zD;decide +kernel)|(apply zE;decide +kernel)|(apply zF;decide +kernel)|(apply zL;decide +kernel)|(apply zM;decide +kernel)|(apply zN;intros)|(apply zO;intros)|(apply zT;omega)|(apply zU;omega)|(apply zP;omega;intros)|(apply zQ;omega;intros)|apply zR);cbv))
  refine XCallK.mut (t1 _) ?_
  rintro d h' ⟨rfl,rfl⟩
  cbv
  (repeat'((first|(apply zS;kernel_rfl)|(apply zD;decide +kernel)|(apply zE;decide +kernel)|(apply zF;decide +kernel)|(apply zL;decide +kernel)|(apply zM;decide +kernel)|(apply zN;intros)|(apply zO;intros)|(apply zT;omega)|(apply zU;omega)|(apply zP;omega;intros)|(apply zQ;omega;intros)|apply zR);cbv))
  refine YDrawK.turn 1 [0] (by decide +kernel) (by kernel_rfl) ?_
  cbv
  (repeat'((first|(apply zS;kernel_rfl)|(apply zD;decide +kernel)|(apply zE;decide +kernel)|(apply zF;decide +kernel)|(apply zL;decide +kernel)|(apply zM;decide +kernel)|(apply zN;intros)|(apply zO;intros)|(apply zT;omega)|(apply zU;omega)|(apply zP;omega;intros)|(apply zQ;omega;intros)|apply zR);cbv))
  rename_i r hr
  obtain rfl : r = dp := by omega
  refine ⟨.inl (TCallK.mut (w1 _) ?_)⟩
  cbv
  (repeat'((first|(apply zS;kernel_rfl)|(apply zD;decide +kernel)|(apply zE;decide +kernel)|(apply zF;decide +kernel)|(apply zL;decide +kernel)|(apply zM;decide +kernel)|(apply zN;intros)|(apply zO;intros)|(apply zT;omega)|(apply zU;omega)|(apply zP;omega;intros)|(apply zQ;omega;intros)|apply zR);cbv))
  refine ⟨.inl (TCallK.one cF (cons_pure hpt (cons_pure hpu rfl)) hpf ?_)⟩
  cbv
  (repeat'((first|(apply zS;kernel_rfl)|(apply zD;decide +kernel)|(apply zE;decide +kernel)|(apply zF;decide +kernel)|(apply zL;decide +kernel)|(apply zM;decide +kernel)|(apply zN;intros)|(apply zO;intros)|(apply zT;omega)|(apply zU;omega)|(apply zP;omega;intros)|(apply zQ;omega;intros)|apply zR);cbv))
  refine ⟨by decide +kernel,FreeX.one rfl rfl rfl ?_,?_⟩
  ·repeat' (first | refine List.forall_mem_cons.2 ⟨rfl,?_⟩ | exact fun _ h => absurd h List.not_mem_nil)
  cbv
  (repeat'((first|(apply zS;kernel_rfl)|(apply zD;decide +kernel)|(apply zE;decide +kernel)|(apply zF;decide +kernel)|(apply zL;decide +kernel)|(apply zM;decide +kernel)|(apply zN;intros)|(apply zO;intros)|(apply zT;omega)|(apply zU;omega)|(apply zP;omega;intros)|(apply zQ;omega;intros)|apply zR);cbv))
  exact ⟨hok _⟩
theorem info_unit : ∃ i,(TT ()).info? 159 = some i ∧ i.zero = some (.agg #[]) := Option.bind_eq_some_iff.1 (show ((TT ()).info? 159).bind (·.zero) = some (.agg #[]) by kernel_rfl)
def lbH (l : List Tkn) (j : Int) (b : Nat) (keys : List ByteArray) : H := [rdc l j,.keep b (MapIs keys)]
theorem lbH_idb (l : List Tkn) (j : Int) (b : Nat) (keys : List ByteArray) : (lbH l j b keys).all (cellIdb 2) = true := by simp [lbH,rdc,cellIdb,idbL,idb,tks_idb l]
def labQ (l : List Tkn) (j : Int) (b : Nat) (keys : List ByteArray) (f : Int -> List ByteArray -> H) : Bool -> D -> H -> Prop := fun bo d h' =>
 (bo = true ∧ (tokT l j).k = 3 ∧ fineB (tokT l j).s = true ∧ (tokT l j).s ∉ keys ∧ d = .raw (.string (tokT l j).s) ∧ h' = f (j + 1) (keys ++ [(tokT l j).s])) ∨
 (bo = false ∧ (tokT l j).k = 3 ∧ fineB (tokT l j).s = true ∧ (tokT l j).s ∈ keys ∧ d = refD 9 (tokT l j).a ∧ ∃ ks,h' = f j ks) ∨
 (bo = false ∧ ¬ ((tokT l j).k = 3 ∧ fineB (tokT l j).s = true) ∧ d = refD (misT (tokT l j)) (tokT l j).a ∧ ∃ ks,h' = f j ks)
theorem label_run (l : List Tkn) (j : Int) (hj : -3000000 ≤ j ∧ j ≤ 3000000) (hs : (tokT l j).s.size ≤ maxLen) (b : Nat) (keys : List ByteArray) (Q : Bool -> D -> H -> Prop) (hQ : ∀ rest bo d h',labQ l j b keys (fun j ks => lbH l j b ks ++ rest) bo d h' -> Q bo d h') :
  yfun TT 107 [.bx 0 0,.raw (.map (some b))] (lbH l j b keys) Q := by
 have hok : (tokT l j).k = 3 -> fineB (tokT l j).s = true -> (tokT l j).s ∉ keys -> ∀ rest j1,j1 = j + 1 -> Q true (.raw (.string (tokT l j).s)) (lbH l j1 b (keys ++ [(tokT l j).s]) ++ rest) := fun h1 h2 h3 rest j1 hj1 => hQ rest _ _ _ (.inl ⟨rfl,h1,h2,h3,rfl,by rw [hj1]⟩)
 have htw : (tokT l j).k = 3 -> fineB (tokT l j).s = true -> (tokT l j).s ∈ keys -> ∀ rest ks,Q false (refD 9 (tokT l j).a) (lbH l j b ks ++ rest) := fun h1 h2 h3 rest ks => hQ rest _ _ _ (.inr (.inl ⟨rfl,h1,h2,h3,rfl,ks,rfl⟩))
 have hno : ¬ ((tokT l j).k = 3 ∧ fineB (tokT l j).s = true) -> ∀ rest ks,Q false (refD (misT (tokT l j)) (tokT l j).a) (lbH l j b ks ++ rest) := fun h1 rest ks => hQ rest _ _ _ (.inr (.inr ⟨rfl,h1,rfl,ks,rfl⟩))
 clear hQ
 have cn := next_ext l j
 have cm := misfit_cp (tokT l j)
 have cr := refuse_ext l j (misT (tokT l j)) (misT_ne _)
 have cr9 := refuse_ext l j 9 (by decide)
 have cf := nfine_cp (tokT l j).s hs
 have hp := tk_pure (tokT l j)
 obtain ⟨iu,hu1,hu2⟩ := info_unit
 clear hs
 unfold refD errD at htw hno cr cr9
 generalize misT (tokT l j) = c at cm cr hno
 generalize tokT l j = t at cn cm cr cr9 cf hp hok htw hno
 obtain ⟨k,n,u,a⟩ := t
 simp only [tkD] at cn cm cr cr9 cf hp hok htw hno
 generalize hfb : fineB u = fb at cf hok htw hno
 clear hfb
 unfold lbH rdc at hok htw hno ⊢
 unfold rdc at cn cr cr9
 simp only [List.cons_append,List.nil_append] at hok htw hno
 generalize l.map tkD = L at *
 cbv
 (repeat'((first|(apply zS;kernel_rfl)|(apply zD;decide +kernel)|(apply zE;decide +kernel)|(apply zF;decide +kernel)|(apply zL;decide +kernel)|(apply zM;decide +kernel)|(apply zN;intros)|(apply zO;intros)|(apply zT;omega)|(apply zU;omega)|(apply zP;omega;intros)|(apply zQ;omega;intros)|apply zR);cbv))
 refine XCallK.mut (cn _) ?_
 rintro d h' ⟨rfl,rfl⟩
 cbv
 (repeat'((first|(apply zS;kernel_rfl)|(apply zD;decide +kernel)|(apply zE;decide +kernel)|(apply zF;decide +kernel)|(apply zL;decide +kernel)|(apply zM;decide +kernel)|(apply zN;intros)|(apply zO;intros)|(apply zT;omega)|(apply zU;omega)|(apply zP;omega;intros)|(apply zQ;omega;intros)|apply zR);cbv))
 refine BinK.neq ?_ ?_ <;> intro h3 <;> cbv <;> (repeat'((first|(apply zS;kernel_rfl)|(apply zD;decide +kernel)|(apply zE;decide +kernel)|(apply zF;decide +kernel)|(apply zL;decide +kernel)|(apply zM;decide +kernel)|(apply zN;intros)|(apply zO;intros)|(apply zT;omega)|(apply zU;omega)|(apply zP;omega;intros)|(apply zQ;omega;intros)|apply zR);cbv))
 ·have hno := hno (fun h => h3 h.1)
  refine XCallK.one cm (cons_pure hp rfl) rfl ?_
  cbv
  (repeat'((first|(apply zS;kernel_rfl)|(apply zD;decide +kernel)|(apply zE;decide +kernel)|(apply zF;decide +kernel)|(apply zL;decide +kernel)|(apply zM;decide +kernel)|(apply zN;intros)|(apply zO;intros)|(apply zT;omega)|(apply zU;omega)|(apply zP;omega;intros)|(apply zQ;omega;intros)|apply zR);cbv))
  refine XCallK.both (cr _) ?_
  rintro b d h' ⟨rfl,rfl,rfl⟩
  cbv
  exact ⟨hno _ _⟩
 have hok := hok h3
 have htw := htw h3
 refine XCallK.one cf rfl rfl ?_
 cases fb with
 | false =>
  have hno := hno (fun h => by cases h.2)
  cbv
  (repeat'((first|(apply zS;kernel_rfl)|(apply zD;decide +kernel)|(apply zE;decide +kernel)|(apply zF;decide +kernel)|(apply zL;decide +kernel)|(apply zM;decide +kernel)|(apply zN;intros)|(apply zO;intros)|(apply zT;omega)|(apply zU;omega)|(apply zP;omega;intros)|(apply zQ;omega;intros)|apply zR);cbv))
  refine XCallK.one cm (cons_pure hp rfl) rfl ?_
  cbv
  (repeat'((first|(apply zS;kernel_rfl)|(apply zD;decide +kernel)|(apply zE;decide +kernel)|(apply zF;decide +kernel)|(apply zL;decide +kernel)|(apply zM;decide +kernel)|(apply zN;intros)|(apply zO;intros)|(apply zT;omega)|(apply zU;omega)|(apply zP;omega;intros)|(apply zQ;omega;intros)|apply zR);cbv))
  refine XCallK.both (cr _) ?_
  rintro b d h' ⟨rfl,rfl,rfl⟩
  cbv
  exact ⟨hno _ _⟩
 | true =>
  have hok := hok rfl
  have htw := htw rfl
  cbv
  (repeat'((first|(apply zS;kernel_rfl)|(apply zD;decide +kernel)|(apply zE;decide +kernel)|(apply zF;decide +kernel)|(apply zL;decide +kernel)|(apply zM;decide +kernel)|(apply zN;intros)|(apply zO;intros)|(apply zT;omega)|(apply zU;omega)|(apply zP;omega;intros)|(apply zQ;omega;intros)|apply zR);cbv))
  refine ⟨1,keys,9,159,iu,rfl,by kernel_rfl,by kernel_rfl,hu1,hu2,?_,?_⟩ <;> intro hm
  ·have htw := htw hm
   cbv
   (repeat'((first|(apply zS;kernel_rfl)|(apply zD;decide +kernel)|(apply zE;decide +kernel)|(apply zF;decide +kernel)|(apply zL;decide +kernel)|(apply zM;decide +kernel)|(apply zN;intros)|(apply zO;intros)|(apply zT;omega)|(apply zU;omega)|(apply zP;omega;intros)|(apply zQ;omega;intros)|apply zR);cbv))
   refine XCallK.both (cr9 _) ?_
   rintro b d h' ⟨rfl,rfl,rfl⟩
   cbv
   exact ⟨htw _ _⟩
  ·have hok := hok hm
   cbv
   (repeat'((first|(apply zS;kernel_rfl)|(apply zD;decide +kernel)|(apply zE;decide +kernel)|(apply zF;decide +kernel)|(apply zL;decide +kernel)|(apply zM;decide +kernel)|(apply zN;intros)|(apply zO;intros)|(apply zT;omega)|(apply zU;omega)|(apply zP;omega;intros)|(apply zQ;omega;intros)|apply zR);cbv))
   refine ⟨1,keys,9,159,rfl,by kernel_rfl,by kernel_rfl,hm,?_⟩
   generalize keys ++ [u] = K2 at hok ⊢
   cbv
   (repeat'((first|(apply zS;kernel_rfl)|(apply zD;decide +kernel)|(apply zE;decide +kernel)|(apply zF;decide +kernel)|(apply zL;decide +kernel)|(apply zM;decide +kernel)|(apply zN;intros)|(apply zO;intros)|(apply zT;omega)|(apply zU;omega)|(apply zP;omega;intros)|(apply zQ;omega;intros)|apply zR);cbv))
   rename_i r hr
   exact ⟨hok _ r hr⟩
theorem labQ_of {l : List Tkn} {j : Int} {b : Nat} {keys : List ByteArray} {f g : Int -> List ByteArray -> H} {bo : Bool} {d : D} {h' h'' : H} (h : labQ l j b keys f bo d h') (hf : ∀ j ks,h' = f j ks -> h'' = g j ks) : labQ l j b keys g bo d h'' := by
 rcases h with ⟨q1,q2,q3,q4,q5,q6⟩ | ⟨q1,q2,q3,q4,q5,ks,q6⟩ | ⟨q1,q2,q3,ks,q6⟩
 ·exact .inl ⟨q1,q2,q3,q4,q5,hf _ _ q6⟩
 ·exact .inr (.inl ⟨q1,q2,q3,q4,q5,ks,hf _ _ q6⟩)
 ·exact .inr (.inr ⟨q1,q2,q3,ks,hf _ _ q6⟩)
theorem labQ_ends {l : List Tkn} {j : Int} {b : Nat} {keys : List ByteArray} {f : Int -> List ByteArray -> H} {bo : Bool} {d : D} {h' : H} (h : labQ l j b keys f bo d h') : (∀ m,idb m d = true) ∧ ∃ j ks,h' = f j ks := by
 rcases h with ⟨q1,q2,q3,q4,rfl,q6⟩ | ⟨q1,q2,q3,q4,rfl,ks,q6⟩ | ⟨q1,q2,rfl,ks,q6⟩
 ·exact ⟨fun m => rfl,_,_,q6⟩
 ·exact ⟨fun m => rfl,_,_,q6⟩
 ·exact ⟨fun m => rfl,_,_,q6⟩
theorem label_cx (l : List Tkn) (j : Int) (hj : -3000000 ≤ j ∧ j ≤ 3000000) (hs : (tokT l j).s.size ≤ maxLen) (b : Nat) (keys : List ByteArray) : CX (TT ()) 107 [.bx 0 0,.raw (.map (some b))] (lbH l j b keys) (labQ l j b keys fun j ks => lbH l j b ks) := by
 have c : CX (TT ()) 107 [.bx 0 0,.raw (.map (some b))] (lbH l j b keys) fun bo d h' => ∃ rest,labQ l j b keys (fun j ks => lbH l j b ks ++ rest) bo d h' := yfun_ok (T := TT) (by kernel_rfl) (label_run l j hj hs b keys _ fun rest bo d h' h => ⟨rest,h⟩)
 refine c.gc ?_
 rintro bo d h' ⟨rest,h⟩
 obtain ⟨h1,j',ks,rfl⟩ := labQ_ends h
 refine ⟨h1 _,lbH_idb l j' b ks,labQ_of h fun j ks e => ?_⟩
 rw [e]
 try rfl
theorem ren_tks (f : Nat -> Nat) : ∀ l : List Tkn,renL f (l.map tkD) = l.map tkD
 | [] => rfl
 | t :: r => by
  have h : renD f (tkD t) = tkD t := rfl
  simp only [List.map_cons,renL,ren_tks f r,h]
theorem ren_rdc (f : Nat -> Nat) (l : List Tkn) (j : Int) : renC f (rdc l j) = rdc l j := by
 unfold rdc
 simp only [renC,renL,renD,ren_tks,Option.map_none]
def midF (i : Nat) : Nat := if i = 0 then 0 else 2
theorem merge_mid (l : List Tkn) (j j' : Int) (b : Nat) (keys ks : List ByteArray) (c1 : Cell) : mergeH midF [rdc l j,c1,.keep b (MapIs keys)] (lbH l j' b ks) = [rdc l j',c1,.keep b (MapIs ks)] := by
 have h0 : idxOf midF 0 2 = some 0 := rfl
 have h1 : idxOf midF 1 2 = none := rfl
 have h2 : idxOf midF 2 2 = some 1 := rfl
 unfold mergeH lbH
 show [_,_,_] = _
 simp only [List.length_cons,List.length_nil,Nat.zero_add,Nat.reduceAdd,h0,h1,h2]
 show [renC midF (rdc l j'),c1,renC midF (.keep b (MapIs ks))] = _
 rw [ren_rdc]
 try rfl
theorem label_mid (l : List Tkn) (j : Int) (hj : -3000000 ≤ j ∧ j ≤ 3000000) (hs : (tokT l j).s.size ≤ maxLen) (b : Nat) (keys : List ByteArray) (c1 : Cell) : CX (TT ()) 107 [.bx 0 0,.raw (.map (some b))] [rdc l j,c1,.keep b (MapIs keys)] (labQ l j b keys fun j ks => [rdc l j,c1,.keep b (MapIs ks)]) := by
 refine ((label_cx l j hj hs b keys).frame (h := [rdc l j,c1,.keep b (MapIs keys)]) midF rfl rfl (lbH_idb l j b keys) (fun i k hi hk e => ?_) (fun i hi => ?_) (fun bo d h' h => ?_)).mono ?_
 ·have hi : i < 2 := hi
  have hk : k < 2 := hk
  unfold midF at e
  rcases (by omega : i = 0 ∨ i = 1) with rfl | rfl <;> rcases (by omega : k = 0 ∨ k = 1) with rfl | rfl <;> simp at e ⊢
 ·have hi : i < 2 := hi
  rcases (by omega : i = 0 ∨ i = 1) with rfl | rfl
  ·show some (renC midF (rdc l j)) = some (rdc l j)
   rw [ren_rdc]
  ·rfl
 ·obtain ⟨h1,j',ks,rfl⟩ := labQ_ends h
  exact ⟨rfl,h1 _,lbH_idb l j' b ks⟩
 ·rintro bo d h' ⟨d0,h0',h,rfl,rfl⟩
  have hm : ∀ j' ks,h0' = lbH l j' b ks -> mergeH midF [rdc l j,c1,.keep b (MapIs keys)] h0' = [rdc l j',c1,.keep b (MapIs ks)] := fun j' ks e => by
   rw [e]
   exact merge_mid ..
  have hd : renD midF d0 = d0 := by
   rcases h with ⟨_,_,_,_,rfl,_⟩ | ⟨_,_,_,_,rfl,_⟩ | ⟨_,_,rfl,_⟩ <;> rfl
  rw [hd]
  exact labQ_of h hm
theorem label_ext (l : List Tkn) (j : Int) (hj : -3000000 ≤ j ∧ j ≤ 3000000) (hs : (tokT l j).s.size ≤ maxLen) (b : Nat) (keys : List ByteArray) (c1 : Cell) (hc : cellIdb 3 c1 = true) (rest : H) : CX (TT ()) 107 [.bx 0 0,.raw (.map (some b))] (rdc l j :: c1 :: .keep b (MapIs keys) :: rest) (labQ l j b keys fun j ks => rdc l j :: c1 :: .keep b (MapIs ks) :: rest) := by
 have hall : ∀ j ks,([rdc l j,c1,Cell.keep b (MapIs ks)] : H).all (cellIdb 3) = true := fun j ks => by
  simp only [List.all_cons,List.all_nil,hc,Bool.and_true]
  simp [rdc,cellIdb,idbL,idb,tks_idb l]
 refine ((label_mid l j hj hs b keys c1).ext rest rfl (hall j keys) (fun bo d h' h => ?_)).mono ?_
 ·obtain ⟨h1,j',ks,rfl⟩ := labQ_ends h
  exact ⟨rfl,h1 _,hall j' ks⟩
 ·rintro bo d h' ⟨h0',h,rfl⟩
  exact labQ_of h fun j ks e => by rw [e];rfl
structure FI (recT : List ByteArray -> List Ty5 -> Ty5) (rd : Int -> Rs) (l : List Tkn) (R : Rs) (i : Int) (LD AD : List D) (nl na : Nat) (ls : List ByteArray) (ks : List Ty5) (f : Nat) : Prop where
 hi : inR i
 hR : fieldsS recT rd l f i ls ks = R
 hL : LD = ls.map strD
 hA : AD = tysD ks
 hnl : nl = LD.length
 hna : na = AD.length
 hf : ls.length + f = l.length + 1
 hlen : ks.length = ls.length
 hpos : ls = [] ∨ ((ls.length : Int) ≤ i ∧ i ≤ l.length)
 hfine : ∀ s ∈ ls,fineB s = true ∧ s.size ≤ maxLen
 hnd : ls.Nodup
def RecLaw (recT : List ByteArray -> List Ty5 -> Ty5) (N : Nat) : Prop := ∀ (ls : List ByteArray) (ks : List Ty5),ls.length = ks.length -> ls.length ≤ N -> (∀ s ∈ ls,fineB s = true ∧ s.size ≤ maxLen) -> ls.Nodup -> CP (TT ()) 108 [.sl none 1 (ls.map strD),.sl none 5 (tysD ks)] (· = .tup [tyD (recT ls ks),.raw (.bool true)])
theorem fields_run (recT : List ByteArray -> List Ty5 -> Ty5) (rd : Int -> Rs) (l : List Tkn) (hll : l.length ≤ 1000000) (hs : ∀ j,(tokT l j).s.size ≤ maxLen) (hrec : RecLaw recT l.length) (deep : Int) (hrd : ∀ i t to,rd i = .ok t to -> to ≤ l.length ∧ i < to)
  (hw : Reads1 32 l deep rd) (i0 : Int) (hi0 : inR i0) (R : Rs) (hR0 : fieldsS recT rd l (l.length + 1) i0 [] [] = R)
  (Q : Bool -> D -> H -> Prop) (hQR : ∀ rest b d h',outW R (fun j => rdc l j :: rest) b d h' -> Q b d h') : yfun TT 77 [.bx 0 0,.raw (.int .i64 deep)] (rdH l i0) Q := by
 unfold rdH
 obtain ⟨L,hLL⟩ : ∃ L,l.map tkD = L := ⟨_,rfl⟩
 rw [hLL]
 have hLi : ∀ k,idbL k L = true := fun k => by rw [← hLL];exact tks_idb l k
 cbv
 (repeat'((first|(apply zS;kernel_rfl)|(apply zD;decide +kernel)|(apply zE;decide +kernel)|(apply zF;decide +kernel)|(apply zL;decide +kernel)|(apply zM;decide +kernel)|(apply zN;intros)|(apply zO;intros)|(apply zT;omega)|(apply zU;omega)|(apply zP;omega;intros)|(apply zQ;omega;intros)|apply zR);cbv))
 refine ⟨fun bm => ?_⟩
 cbv
 (repeat'((first|(apply zS;kernel_rfl)|(apply zD;decide +kernel)|(apply zE;decide +kernel)|(apply zF;decide +kernel)|(apply zL;decide +kernel)|(apply zM;decide +kernel)|(apply zN;intros)|(apply zO;intros)|(apply zT;omega)|(apply zU;omega)|(apply zP;omega;intros)|(apply zQ;omega;intros)|apply zR);cbv))
 refine LoopK.log 5 9 1 rfl ?_
 cbv
 refine LoopK.log 6 26 5 rfl ?_
 cbv
 refine LoopK.put (X := Int × List D × List D × Nat × Nat × List ByteArray) (fun x => [(5,.sl (some 3) 1 x.2.1),(6,.sl (some 4) 5 x.2.2.1)]) (fun x => [(0,.box 69 [.sl none 4 L,.raw (.int .i64 x.1)]),(2,.keep bm (MapIs x.2.2.2.2.2)),(3,.log 9 1 x.2.2.2.1),(4,.log 26 5 x.2.2.2.2.1)]) (fun x => l.length + 1 - x.2.2.2.2.2.length)
  (fun x => ∃ ks f,FI recT rd l R x.1 x.2.1 x.2.2.1 x.2.2.2.1 x.2.2.2.2.1 x.2.2.2.2.2 ks f) (i0,[],[],0,0,[]) ⟨[],l.length + 1,⟨hi0,hR0,rfl,rfl,rfl,rfl,by simp,rfl,.inl rfl,fun s hs => (by cases hs),List.nodup_nil⟩⟩ rfl rfl ?_
 rintro ⟨i,LD,AD,nl,na,ls⟩ N ⟨ks,f,hI⟩ hN
 simp only at hI hN ⊢
 obtain ⟨hi,hR,hL,hA,hnl,hna,hf,hlen,hpos,hfine,hnd⟩ := hI
 have hi' := hi
 unfold inR at hi'
 have hLl : LD.length = ls.length := by rw [hL];simp
 have hAl : AD.length = ls.length := by rw [hA,tysD_map];simp [hlen]
 have hlsl : ls.length ≤ l.length := by
  rcases hpos with h | h
  ·rw [h];simp
  ·omega
 obtain ⟨f,rfl⟩ : ∃ g,f = g + 1 := ⟨f - 1,by omega⟩
 have t1 := take_ext l i (by omega) ⟨#[125]⟩
 simp only [rdc,hLL] at t1
 cbv
 (repeat'((first|(apply zS;kernel_rfl)|(apply zD;decide +kernel)|(apply zE;decide +kernel)|(apply zF;decide +kernel)|(apply zL;decide +kernel)|(apply zM;decide +kernel)|(apply zN;intros)|(apply zO;intros)|(apply zT;omega)|(apply zU;omega)|(apply zP;omega;intros)|(apply zQ;omega;intros)|apply zR);cbv))
 refine XCallK.mut (t1 _) ?_
 intro d h' hd
 cases h1 : isT l i ⟨#[125]⟩ with
 | true =>
  rw [h1,if_pos rfl] at hd
  obtain ⟨i1,hi1⟩ : ∃ i1,i1 = i + 1 := ⟨_,rfl⟩
  rw [← hi1] at hd
  obtain ⟨rfl,rfl⟩ := hd
  have hR : R = .ok (recT ls ks) (i + 1) := by
   rw [← hR]
   simp only [fieldsS,h1,if_true]
  have hok : ∀ rest,Q true (tyD (recT ls ks)) (rdc l (i + 1) :: rest) := fun rest => outW_ok (f := fun rest j => rdc l j :: rest) hQR hR (.refl _) rest
  simp only [rdc,hLL,← hi1] at hok
  have cR := hrec ls ks hlen.symm hlsl hfine hnd
  rw [← hL,← hA] at cR
  have hLp : pureL LD = some LD := by rw [hL];exact strs_pure ls
  have hAp : pureL AD = some AD := by rw [hA];exact tys_pure ks
  have hpt : pureD (.tup [tyD (recT ls ks),.raw (.bool true)]) = some (.tup [tyD (recT ls ks),.raw (.bool true)]) := by simp [pureD,pureL,ty_pure]
  generalize recT ls ks = T at hok cR hpt
  obtain ⟨n3,nm3,L3,K3,f3,_,_⟩ := ty_nodeR T
  rw [f3] at hok cR hpt
  generalize (match T with | .mk k _ _ _ _ => k) = vk at hok cR hpt
  clear t1 hQR hR
  cbv
  (repeat'((first|(apply zS;kernel_rfl)|(apply zD;decide +kernel)|(apply zE;decide +kernel)|(apply zF;decide +kernel)|(apply zL;decide +kernel)|(apply zM;decide +kernel)|(apply zN;intros)|(apply zO;intros)|(apply zT;omega)|(apply zU;omega)|(apply zP;omega;intros)|(apply zQ;omega;intros)|apply zR);cbv))
  refine XCallK.one cR (by simp [pureL,pureD,hLp,hAp]) hpt ?_
  cbv
  (repeat'((first|(apply zS;kernel_rfl)|(apply zD;decide +kernel)|(apply zE;decide +kernel)|(apply zF;decide +kernel)|(apply zL;decide +kernel)|(apply zM;decide +kernel)|(apply zN;intros)|(apply zO;intros)|(apply zT;omega)|(apply zU;omega)|(apply zP;omega;intros)|(apply zQ;omega;intros)|apply zR);cbv))
  exact ⟨hok _⟩
 | false =>
  rw [h1,if_neg (by simp)] at hd
  obtain ⟨rfl,rfl⟩ := hd
  have hR1 : (if ls ≠ [] ∧ isT l i ⟨#[44]⟩ = false then wrongT l i else labelS rd l (fieldsS recT rd l f) (if ls = [] then i else i + 1) ls ks) = R := by
   rw [← hR]
   simp only [fieldsS,h1,Bool.false_eq_true,if_false]
  clear t1 hR
  cbv
  (repeat'((first|(apply zS;kernel_rfl)|(apply zD;decide +kernel)|(apply zE;decide +kernel)|(apply zF;decide +kernel)|(apply zL;decide +kernel)|(apply zM;decide +kernel)|(apply zN;intros)|(apply zO;intros)|(apply zT;omega)|(apply zU;omega)|(apply zP;omega;intros)|(apply zQ;omega;intros)|apply zR);cbv))
  refine BinK.gtr ?_ ?_ <;> intro hz <;> cbv <;> (repeat'((first|(apply zS;kernel_rfl)|(apply zD;decide +kernel)|(apply zE;decide +kernel)|(apply zF;decide +kernel)|(apply zL;decide +kernel)|(apply zM;decide +kernel)|(apply zN;intros)|(apply zO;intros)|(apply zT;omega)|(apply zU;omega)|(apply zP;omega;intros)|(apply zQ;omega;intros)|apply zR);cbv))
  ·have hne : ls ≠ [] := fun e => by
    have h0 : LD.length = 0 := by rw [hLl,e];rfl
    omega
   have n1 := want_ext l i (by omega) ⟨#[44]⟩
   simp only [rdc,hLL] at n1
   refine XCallK.both (n1 _) ?_
   intro bo d h' hw2
   rcases hw2 with ⟨p1,rfl,rfl,hh'⟩ | ⟨p1,rfl,hd',hh'⟩
   rotate_left
   ·have he : R = .bad (misT (tokT l i)) (tokT l i).a := by
     rw [← hR1,if_pos ⟨hne,p1⟩]
     try rfl
    have hb := outW_bad (f := fun rest j => rdc l j :: rest) hQR he
    simp only [rdc,hLL] at hb
    subst hd' hh'
    exact (⟨hb _ _⟩ : EndK (Q false) _ _)
   obtain ⟨j,hj⟩ : ∃ j,j = i + 1 := ⟨_,rfl⟩
   rw [← hj] at hh'
   have hR' : labelS rd l (fieldsS recT rd l f) j ls ks = R := by
    rw [← hR1,if_neg (fun h => by rw [p1] at h;cases h.2),if_neg hne,hj]
   subst hh'
   clear n1 hR1
   cbv
   (repeat'((first|(apply zS;kernel_rfl)|(apply zD;decide +kernel)|(apply zE;decide +kernel)|(apply zF;decide +kernel)|(apply zL;decide +kernel)|(apply zM;decide +kernel)|(apply zN;intros)|(apply zO;intros)|(apply zT;omega)|(apply zU;omega)|(apply zP;omega;intros)|(apply zQ;omega;intros)|apply zR);cbv))
   have hsz := hs j
   obtain ⟨s,hsj⟩ : ∃ s,s = (tokT l j).s := ⟨_,rfl⟩
   have lab := label_ext l j (by omega) hsz bm ls (.box 26 [.raw (.int .i64 0),.raw (.int .i64 0),.raw (.string ⟨#[]⟩),.raw (.slice none 0 0),.raw (.slice none 0 0)]) rfl
   simp only [rdc,hLL] at lab
   refine XCallK.both (lab _) ?_
   intro bo d h' hlab
   rcases hlab with ⟨rfl,q1,q2,q3,hd',hh'⟩ | ⟨rfl,q1,q2,q3,hd',kx,hh'⟩ | ⟨rfl,q1,hd',kx,hh'⟩
   rotate_left
   ·have he : R = .bad 9 (tokT l j).a := by
     rw [← hR']
     unfold labelS
     rw [if_pos ⟨q1,q2⟩,if_pos (inB_mem.2 q3)]
    have hb := outW_bad (f := fun rest j => rdc l j :: rest) hQR he
    simp only [rdc,hLL] at hb
    subst hd' hh'
    exact (⟨hb _ _⟩ : EndK (Q false) _ _)
   ·have he : R = .bad (misT (tokT l j)) (tokT l j).a := by
     rw [← hR']
     unfold labelS
     rw [if_neg q1]
     try rfl
    have hb := outW_bad (f := fun rest j => rdc l j :: rest) hQR he
    simp only [rdc,hLL] at hb
    subst hd' hh'
    exact (⟨hb _ _⟩ : EndK (Q false) _ _)
   have hR2 : (if isT l (j + 1) ⟨#[58]⟩ = true then match rd (j + 2) with
      | .ok u to => fieldsS recT rd l f to (ls ++ [(tokT l j).s]) (ks ++ [u])
      | .bad e p => .bad e p
     else wrongT l (j + 1)) = R := by
    rw [← hR']
    unfold labelS
    have q12 : (tokT l j).k = 3 ∧ fineB (tokT l j).s = true := ⟨q1,q2⟩
    have q4 : ¬ (inB ls (tokT l j).s = true) := fun h => q3 (inB_mem.1 h)
    rw [if_pos q12,if_neg q4]
    try rfl
   have hj0 := tokT_k (l := l) (i := j) (by rw [q1];decide)
   rw [← hsj] at hd' hh' hR2 q2 q3
   have hsz : s.size ≤ maxLen := by rw [hsj];exact hsz
   obtain ⟨ls2,hls2⟩ : ∃ x,x = ls ++ [s] := ⟨_,rfl⟩
   rw [← hls2] at hh' hR2
   obtain ⟨j1,hj1⟩ : ∃ x,x = j + 1 := ⟨_,rfl⟩
   rw [← hj1] at hh' hR2
   subst hd' hh'
   clear lab
   cbv
   (repeat'((first|(apply zS;kernel_rfl)|(apply zD;decide +kernel)|(apply zE;decide +kernel)|(apply zF;decide +kernel)|(apply zL;decide +kernel)|(apply zM;decide +kernel)|(apply zN;intros)|(apply zO;intros)|(apply zT;omega)|(apply zU;omega)|(apply zP;omega;intros)|(apply zQ;omega;intros)|apply zR);cbv))
   refine AppK.sl el_strs el_strs rfl hnl (by rw [hLl];simp only [List.length_cons,List.length_nil];omega) ?_
   intro LD2 nl2 hLD2 hnl2
   cbv
   (repeat'((first|(apply zS;kernel_rfl)|(apply zD;decide +kernel)|(apply zE;decide +kernel)|(apply zF;decide +kernel)|(apply zL;decide +kernel)|(apply zM;decide +kernel)|(apply zN;intros)|(apply zO;intros)|(apply zT;omega)|(apply zU;omega)|(apply zP;omega;intros)|(apply zQ;omega;intros)|apply zR);cbv))
   have n2 := want_ext l j1 (by omega) ⟨#[58]⟩
   simp only [rdc,hLL] at n2
   refine XCallK.both (n2 _) ?_
   intro bo d h' hw2
   rcases hw2 with ⟨p1,rfl,rfl,hh'⟩ | ⟨p1,rfl,hd',hh'⟩
   rotate_left
   ·have he : R = .bad (misT (tokT l j1)) (tokT l j1).a := by
     rw [← hR2,if_neg (by rw [p1];simp)]
     try rfl
    have hb := outW_bad (f := fun rest j => rdc l j :: rest) hQR he
    simp only [rdc,hLL] at hb
    subst hd' hh'
    exact (⟨hb _ _⟩ : EndK (Q false) _ _)
   rw [if_pos p1] at hR2
   have hj2 := isT_lt p1
   obtain ⟨j2,hj2'⟩ : ∃ x,x = j1 + 1 := ⟨_,rfl⟩
   rw [← hj2'] at hh'
   rw [show j + 2 = j2 by omega] at hR2
   subst hh'
   clear n2
   cbv
   (repeat'((first|(apply zS;kernel_rfl)|(apply zD;decide +kernel)|(apply zE;decide +kernel)|(apply zF;decide +kernel)|(apply zL;decide +kernel)|(apply zM;decide +kernel)|(apply zN;intros)|(apply zO;intros)|(apply zT;omega)|(apply zU;omega)|(apply zP;omega;intros)|(apply zQ;omega;intros)|apply zR);cbv))
   have w1 := fun rest => hw.ext (j := j2) ⟨by omega,by omega⟩ rest
   cases hr : rd j2 with
   | bad e p =>
    rw [hr] at hR2 w1
    have w1 := fun rest => bad_ends (w1 rest)
    have hb := outW_bad (f := fun rest j => rdc l j :: rest) hQR hR2.symm
    simp only [rdc,hLL] at hb w1
    refine XCallK.both (w1 _) ?_
    rintro bo d h' ⟨rfl,hd',jx,hh'⟩
    subst hd' hh'
    exact (⟨hb _ _⟩ : EndK (Q false) _ _)
   | ok u to =>
    rw [hr] at hR2 w1
    have hto1 : to ≤ ((l.length : Nat) : Int) := (hrd _ _ _ hr).1
    have hto2 : j2 < to := (hrd _ _ _ hr).2
    have w1 := fun rest => ok_ends (w1 rest)
    simp only [rdc,hLL] at w1
    have hpu := ty_pure u
    have hA2 : tysD (ks ++ [u]) = AD ++ [tyD u] := by rw [hA];simp [tysD_map]
    obtain ⟨nu,nmu,Lu,Ku,fu,iu,ju⟩ := ty_nodeR u
    rw [fu] at w1 hpu hA2
    generalize (match u with | .mk k _ _ _ _ => k) = uk at w1 hpu hA2
    refine XCallK.mut (w1 _) ?_
    rintro d h' ⟨rfl,rfl⟩
    cbv
    (repeat'((first|(apply zS;kernel_rfl)|(apply zD;decide +kernel)|(apply zE;decide +kernel)|(apply zF;decide +kernel)|(apply zL;decide +kernel)|(apply zM;decide +kernel)|(apply zN;intros)|(apply zO;intros)|(apply zT;omega)|(apply zU;omega)|(apply zP;omega;intros)|(apply zQ;omega;intros)|apply zR);cbv))
    refine AppK.sl el_tys el_tys rfl hna (by rw [hAl];simp only [List.length_cons,List.length_nil];omega) ?_
    intro AD2 na2 hAD2 hna2
    cbv
    (repeat'((first|(apply zS;kernel_rfl)|(apply zD;decide +kernel)|(apply zE;decide +kernel)|(apply zF;decide +kernel)|(apply zL;decide +kernel)|(apply zM;decide +kernel)|(apply zN;intros)|(apply zO;intros)|(apply zT;omega)|(apply zU;omega)|(apply zP;omega;intros)|(apply zQ;omega;intros)|apply zR);cbv))
    have hLD3 : LD2 = ls2.map strD := by rw [hLD2,hls2,hL];simp [strD]
    have hAD3 : AD2 = tysD (ks ++ [u]) := by rw [hA2];exact hAD2
    have hLi2 : ∀ m,idbL m LD2 = true := fun m => pure_idbL m _ (by rw [hLD3];exact strs_pure _)
    have hAi2 : ∀ m,idbL m AD2 = true := fun m => pure_idbL m _ (by rw [hAD3];exact tys_pure _)
    have hls2l : ls2.length = ls.length + 1 := by rw [hls2];simp
    have hto1 : to ≤ ((l.length : Nat) : Int) := hto1
    have hle : (ls2.length : Int) ≤ to := by
     rw [hls2l]
     rcases hpos with h | h
     ·have h0 : ls.length = 0 := by rw [h];rfl
      omega
     ·have h3 : ((ls.length : Nat) : Int) ≤ i := h.1
      omega
    refine RoundK.next (to,LD2,AD2,nl2,na2,ls2) ⟨ks ++ [u],f,⟨⟨by omega,by omega⟩,hR2,hLD3,hAD3,hnl2,hna2,(show ls2.length + f = l.length + 1 by omega),by rw [List.length_append,hls2l,hlen];rfl,.inr ⟨hle,hto1⟩,fun x hx => ?_,?_⟩⟩ ?_ rfl rfl
    ·rw [hls2] at hx
     rcases List.mem_append.1 hx with hx | hx
     ·exact hfine x hx
     ·rw [List.mem_singleton.1 hx]
      exact ⟨q2,hsz⟩
    ·rw [hls2]
     exact List.nodup_append.2 ⟨hnd,by simp,fun a ha b hb e => by
      rw [List.mem_singleton.1 hb] at e
      exact q3 (e ▸ ha)⟩
    ·show l.length + 1 - ls2.length < N
     omega
  ·have hnil : ls = [] := List.eq_nil_of_length_eq_zero (by omega)
   obtain ⟨j,hj⟩ : ∃ j,j = i := ⟨_,rfl⟩
   have hR' : labelS rd l (fieldsS recT rd l f) j ls ks = R := by
    rw [← hR1,if_neg (fun h => h.1 hnil),if_pos hnil,hj]
   rw [← hj]
   clear hR1
   have hsz := hs j
   obtain ⟨s,hsj⟩ : ∃ s,s = (tokT l j).s := ⟨_,rfl⟩
   have lab := label_ext l j (by omega) hsz bm ls (.box 26 [.raw (.int .i64 0),.raw (.int .i64 0),.raw (.string ⟨#[]⟩),.raw (.slice none 0 0),.raw (.slice none 0 0)]) rfl
   simp only [rdc,hLL] at lab
   refine XCallK.both (lab _) ?_
   intro bo d h' hlab
   rcases hlab with ⟨rfl,q1,q2,q3,hd',hh'⟩ | ⟨rfl,q1,q2,q3,hd',kx,hh'⟩ | ⟨rfl,q1,hd',kx,hh'⟩
   rotate_left
   ·have he : R = .bad 9 (tokT l j).a := by
     rw [← hR']
     unfold labelS
     rw [if_pos ⟨q1,q2⟩,if_pos (inB_mem.2 q3)]
    have hb := outW_bad (f := fun rest j => rdc l j :: rest) hQR he
    simp only [rdc,hLL] at hb
    subst hd' hh'
    exact (⟨hb _ _⟩ : EndK (Q false) _ _)
   ·have he : R = .bad (misT (tokT l j)) (tokT l j).a := by
     rw [← hR']
     unfold labelS
     rw [if_neg q1]
     try rfl
    have hb := outW_bad (f := fun rest j => rdc l j :: rest) hQR he
    simp only [rdc,hLL] at hb
    subst hd' hh'
    exact (⟨hb _ _⟩ : EndK (Q false) _ _)
   have hR2 : (if isT l (j + 1) ⟨#[58]⟩ = true then match rd (j + 2) with
      | .ok u to => fieldsS recT rd l f to (ls ++ [(tokT l j).s]) (ks ++ [u])
      | .bad e p => .bad e p
     else wrongT l (j + 1)) = R := by
    rw [← hR']
    unfold labelS
    have q12 : (tokT l j).k = 3 ∧ fineB (tokT l j).s = true := ⟨q1,q2⟩
    have q4 : ¬ (inB ls (tokT l j).s = true) := fun h => q3 (inB_mem.1 h)
    rw [if_pos q12,if_neg q4]
    try rfl
   have hj0 := tokT_k (l := l) (i := j) (by rw [q1];decide)
   rw [← hsj] at hd' hh' hR2 q2 q3
   have hsz : s.size ≤ maxLen := by rw [hsj];exact hsz
   obtain ⟨ls2,hls2⟩ : ∃ x,x = ls ++ [s] := ⟨_,rfl⟩
   rw [← hls2] at hh' hR2
   obtain ⟨j1,hj1⟩ : ∃ x,x = j + 1 := ⟨_,rfl⟩
   rw [← hj1] at hh' hR2
   subst hd' hh'
   clear lab
   cbv
   (repeat'((first|(apply zS;kernel_rfl)|(apply zD;decide +kernel)|(apply zE;decide +kernel)|(apply zF;decide +kernel)|(apply zL;decide +kernel)|(apply zM;decide +kernel)|(apply zN;intros)|(apply zO;intros)|(apply zT;omega)|(apply zU;omega)|(apply zP;omega;intros)|(apply zQ;omega;intros)|apply zR);cbv))
   refine AppK.sl el_strs el_strs rfl hnl (by rw [hLl];simp only [List.length_cons,List.length_nil];omega) ?_
   intro LD2 nl2 hLD2 hnl2
   cbv
   (repeat'((first|(apply zS;kernel_rfl)|(apply zD;decide +kernel)|(apply zE;decide +kernel)|(apply zF;decide +kernel)|(apply zL;decide +kernel)|(apply zM;decide +kernel)|(apply zN;intros)|(apply zO;intros)|(apply zT;omega)|(apply zU;omega)|(apply zP;omega;intros)|(apply zQ;omega;intros)|apply zR);cbv))
   have n2 := want_ext l j1 (by omega) ⟨#[58]⟩
   simp only [rdc,hLL] at n2
   refine XCallK.both (n2 _) ?_
   intro bo d h' hw2
   rcases hw2 with ⟨p1,rfl,rfl,hh'⟩ | ⟨p1,rfl,hd',hh'⟩
   rotate_left
   ·have he : R = .bad (misT (tokT l j1)) (tokT l j1).a := by
     rw [← hR2,if_neg (by rw [p1];simp)]
     try rfl
    have hb := outW_bad (f := fun rest j => rdc l j :: rest) hQR he
    simp only [rdc,hLL] at hb
    subst hd' hh'
    exact (⟨hb _ _⟩ : EndK (Q false) _ _)
   rw [if_pos p1] at hR2
   have hj2 := isT_lt p1
   obtain ⟨j2,hj2'⟩ : ∃ x,x = j1 + 1 := ⟨_,rfl⟩
   rw [← hj2'] at hh'
   rw [show j + 2 = j2 by omega] at hR2
   subst hh'
   clear n2
   cbv
   (repeat'((first|(apply zS;kernel_rfl)|(apply zD;decide +kernel)|(apply zE;decide +kernel)|(apply zF;decide +kernel)|(apply zL;decide +kernel)|(apply zM;decide +kernel)|(apply zN;intros)|(apply zO;intros)|(apply zT;omega)|(apply zU;omega)|(apply zP;omega;intros)|(apply zQ;omega;intros)|apply zR);cbv))
   have w1 := fun rest => hw.ext (j := j2) ⟨by omega,by omega⟩ rest
   cases hr : rd j2 with
   | bad e p =>
    rw [hr] at hR2 w1
    have w1 := fun rest => bad_ends (w1 rest)
    have hb := outW_bad (f := fun rest j => rdc l j :: rest) hQR hR2.symm
    simp only [rdc,hLL] at hb w1
    refine XCallK.both (w1 _) ?_
    rintro bo d h' ⟨rfl,hd',jx,hh'⟩
    subst hd' hh'
    exact (⟨hb _ _⟩ : EndK (Q false) _ _)
   | ok u to =>
    rw [hr] at hR2 w1
    have hto1 : to ≤ ((l.length : Nat) : Int) := (hrd _ _ _ hr).1
    have hto2 : j2 < to := (hrd _ _ _ hr).2
    have w1 := fun rest => ok_ends (w1 rest)
    simp only [rdc,hLL] at w1
    have hpu := ty_pure u
    have hA2 : tysD (ks ++ [u]) = AD ++ [tyD u] := by rw [hA];simp [tysD_map]
    obtain ⟨nu,nmu,Lu,Ku,fu,iu,ju⟩ := ty_nodeR u
    rw [fu] at w1 hpu hA2
    generalize (match u with | .mk k _ _ _ _ => k) = uk at w1 hpu hA2
    refine XCallK.mut (w1 _) ?_
    rintro d h' ⟨rfl,rfl⟩
    cbv
    (repeat'((first|(apply zS;kernel_rfl)|(apply zD;decide +kernel)|(apply zE;decide +kernel)|(apply zF;decide +kernel)|(apply zL;decide +kernel)|(apply zM;decide +kernel)|(apply zN;intros)|(apply zO;intros)|(apply zT;omega)|(apply zU;omega)|(apply zP;omega;intros)|(apply zQ;omega;intros)|apply zR);cbv))
    refine AppK.sl el_tys el_tys rfl hna (by rw [hAl];simp only [List.length_cons,List.length_nil];omega) ?_
    intro AD2 na2 hAD2 hna2
    cbv
    (repeat'((first|(apply zS;kernel_rfl)|(apply zD;decide +kernel)|(apply zE;decide +kernel)|(apply zF;decide +kernel)|(apply zL;decide +kernel)|(apply zM;decide +kernel)|(apply zN;intros)|(apply zO;intros)|(apply zT;omega)|(apply zU;omega)|(apply zP;omega;intros)|(apply zQ;omega;intros)|apply zR);cbv))
    have hLD3 : LD2 = ls2.map strD := by rw [hLD2,hls2,hL];simp [strD]
    have hAD3 : AD2 = tysD (ks ++ [u]) := by rw [hA2];exact hAD2
    have hLi2 : ∀ m,idbL m LD2 = true := fun m => pure_idbL m _ (by rw [hLD3];exact strs_pure _)
    have hAi2 : ∀ m,idbL m AD2 = true := fun m => pure_idbL m _ (by rw [hAD3];exact tys_pure _)
    have hls2l : ls2.length = ls.length + 1 := by rw [hls2];simp
    have hto1 : to ≤ ((l.length : Nat) : Int) := hto1
    have hle : (ls2.length : Int) ≤ to := by
     rw [hls2l]
     rcases hpos with h | h
     ·have h0 : ls.length = 0 := by rw [h];rfl
      omega
     ·have h3 : ((ls.length : Nat) : Int) ≤ i := h.1
      omega
    refine RoundK.next (to,LD2,AD2,nl2,na2,ls2) ⟨ks ++ [u],f,⟨⟨by omega,by omega⟩,hR2,hLD3,hAD3,hnl2,hna2,(show ls2.length + f = l.length + 1 by omega),by rw [List.length_append,hls2l,hlen];rfl,.inr ⟨hle,hto1⟩,fun x hx => ?_,?_⟩⟩ ?_ rfl rfl
    ·rw [hls2] at hx
     rcases List.mem_append.1 hx with hx | hx
     ·exact hfine x hx
     ·rw [List.mem_singleton.1 hx]
      exact ⟨q2,hsz⟩
    ·rw [hls2]
     exact List.nodup_append.2 ⟨hnd,by simp,fun a ha b hb e => by
      rw [List.mem_singleton.1 hb] at e
      exact q3 (e ▸ ha)⟩
    ·show l.length + 1 - ls2.length < N
     omega
theorem whole_of (l : List Tkn) (deep : Int) (R : Int -> Rs) (h : ∀ i,inR i -> ∀ Q : Bool -> D -> H -> Prop,(∀ rest b d h',outW (R i) (fun j => rdc l j :: rest) b d h' -> Q b d h') -> yfun TT 32 [.bx 0 0,.raw (.int .i64 deep)] (rdH l i) Q) : Reads1 32 l deep R := fun i hi =>
 gc_outW (yfun_ok (T := TT) (by kernel_rfl) (h i hi _ fun rest b d h' h => ⟨rest,h⟩))
theorem simple_of (l : List Tkn) (deep : Int) (R : Int -> Rs) (h : ∀ i,inR i -> ∀ Q : Bool -> D -> H -> Prop,(∀ rest b d h',outW (R i) (fun j => rdc l j :: rest) b d h' -> Q b d h') -> yfun TT 46 [.bx 0 0,.raw (.int .i64 deep)] (rdH l i) Q) : Reads1 46 l deep R := fun i hi =>
 gc_outW (yfun_ok (T := TT) (by kernel_rfl) (h i hi _ fun rest b d h' h => ⟨rest,h⟩))
theorem fields_of (l : List Tkn) (deep : Int) (R : Int -> Rs) (h : ∀ i,inR i -> ∀ Q : Bool -> D -> H -> Prop,(∀ rest b d h',outW (R i) (fun j => rdc l j :: rest) b d h' -> Q b d h') -> yfun TT 77 [.bx 0 0,.raw (.int .i64 deep)] (rdH l i) Q) : Reads1 77 l deep R := fun i hi =>
 gc_outW (yfun_ok (T := TT) (by kernel_rfl) (h i hi _ fun rest b d h' h => ⟨rest,h⟩))
theorem whole_reads (recT : List ByteArray -> List Ty5 -> Ty5) (l : List Tkn) (hll : l.length ≤ 1000000) (hs : ∀ j,(tokT l j).s.size ≤ maxLen) (hrec : RecLaw recT l.length) : ∀ (n : Nat) (deep : Int),-2000 ≤ deep -> (65 - deep).toNat = n -> Reads1 32 l deep (readS recT l n)
 | 0,deep,h0,h1 => whole_of l deep _ fun i _ Q hQ => whole_deep l deep (by omega) i Q fun rest => hQ rest _ _ _ ⟨rfl,rfl,i,rfl⟩
 | n + 1,deep,h0,h1 => by
  have ih := whole_reads recT l hll hs hrec n (deep + 1) (by omega) (by omega)
  have hrd : ∀ i t to,readS recT l n i = .ok t to -> to ≤ l.length ∧ i < to := fun i t to e => ⟨readS_le e,readS_to e⟩
  have hf := fields_of l (deep + 1) (fun j => fieldsS recT (readS recT l n) l (l.length + 1) j [] []) fun i hi Q hQ => fields_run recT (readS recT l n) l hll hs hrec (deep + 1) hrd ih i hi _ rfl Q hQ
  have hsm := simple_of l deep (simpleS recT (readS recT l n) l) fun i hi Q hQ => simple_run recT (readS recT l n) l hll hs deep ⟨h0,by omega⟩ hrd ih hf i hi Q hQ
  exact whole_of l deep _ fun i hi Q hQ => whole_run (simpleS recT (readS recT l n) l) (readS recT l n) l hll deep ⟨h0,by omega⟩ (fun i t to e => ⟨simpleS_le (fun i t to e => (hrd i t to e).1) e,simpleS_to (fun i t to e => (hrd i t to e).2) e⟩) hsm ih i hi _ (by (simp only [readS];try rfl)) Q hQ
def zeroT : Ty5 := .mk 0 0 ⟨#[]⟩ [] []
def errR (c a : Int) : D := .raw (.iface 85 (.agg #[.int .i64 c,.int .i64 a]))
def refR (c a : Int) : D := .raw (.iface 66 (.agg #[.iface 85 (.agg #[.int .i64 c,.int .i64 a])]))
theorem rd_errR {C : Cx} {w : World} {c a : Int} {v : Value} (h : Pv.Rd C w (errD c a) v) : v = .iface 85 (.agg #[.int .i64 c,.int .i64 a]) := by
 obtain ⟨u,rfl,vs,rfl,x,r1,rfl,h1,y,r2,rfl,h2,h3⟩ := h
 simp only [Pv.Rd] at h1 h2
 simp only [RdL] at h3
 subst h1 h2 h3
 rfl
theorem err_wk (c a : Int) : Wk (errD c a) (errR c a) := fun C w v h => rd_errR h
theorem err_kw (c a : Int) : Wk (errR c a) (errD c a) := fun C w v h => by
 have h : v = _ := h
 subst h
 exact ⟨_,rfl,_,rfl,_,_,rfl,rfl,_,_,rfl,rfl,rfl⟩
theorem ref_wk (c a : Int) : Wk (refD c a) (refR c a) := fun C w v ⟨u,hu,vs,hvs,x,r1,hx,h1,h2⟩ => by
 have h1 := rd_errR h1
 simp only [RdL] at h2
 subst hu hvs hx h1 h2
 rfl
theorem BinK.someNe {ty : TypeId} {u : Value} {x y : Operand} {K : D -> Prop} (k : K (.raw (.bool true))) : BinK TT .neq 28 x y (.iface ty u) .nilIface K := ⟨.bool true,by kernel_rfl,k⟩
theorem BinK.anyNe {ty : TypeId} {u : Value} {x y : Operand} {K : D -> Prop} (k : K (.raw (.bool true))) : BinK TT .neq 20 x y (.iface ty u) .nilIface K := ⟨.bool true,by kernel_rfl,k⟩
theorem guard_nil {t : TypeId} {o : BinOp} {x : Operand} {u : Value} (ho : o = .eql ∨ o = .neq) : (eqGuard o t x (.const u) .nilIface .nilIface : Sem Unit) = pure () := by
 rcases ho with rfl | rfl <;> cases x <;> rfl
theorem BinK.anyNil {x : Operand} {u : Value} {K : D -> Prop} (k : K (.raw (.bool false))) : BinK TT .neq 20 x (.const u) .nilIface .nilIface K := ⟨.bool false,by rw [guard_nil (.inr rfl)];kernel_rfl,k⟩
theorem BinK.nilNe {x : Operand} {u : Value} {K : D -> Prop} (k : K (.raw (.bool false))) : BinK TT .neq 28 x (.const u) .nilIface .nilIface K := ⟨.bool false,by rw [guard_nil (.inr rfl)];kernel_rfl,k⟩
theorem BinK.nilEq {x : Operand} {u : Value} {K : D -> Prop} (k : K (.raw (.bool true))) : BinK TT .eql 28 x (.const u) .nilIface .nilIface K := ⟨.bool true,by rw [guard_nil (.inl rfl)];kernel_rfl,k⟩
def readD (R : Rs) : D := match R with
 | .ok t to => .tup [tyD t,.raw (.int .i64 to),.raw .nilIface]
 | .bad e p => .tup [tyD zeroT,.raw (.int .i64 0),errR e p]
theorem readD_pure (R : Rs) : pureD (readD R) = some (readD R) := by
 cases R with
 | ok t to => simp [readD,pureD,pureL,ty_pure]
 | bad e p => simp [readD,pureD,pureL,ty_pure,errR]
def aheadF (i : Nat) : Nat := i + 2
theorem merge_ahead (l : List Tkn) (c0 c1 : Cell) (j j' : Int) : mergeH aheadF [c0,c1,rdc l j] [rdc l j'] = [c0,c1,rdc l j'] := by
 have h0 : idxOf aheadF 0 1 = none := rfl
 have h1 : idxOf aheadF 1 1 = none := rfl
 have h2 : idxOf aheadF 2 1 = some 0 := rfl
 unfold mergeH
 show [_,_,_] = _
 simp only [List.length_cons,List.length_nil,Nat.zero_add,h0,h1,h2]
 show [c0,c1,renC aheadF (rdc l j')] = _
 rw [ren_rdc]
theorem ren_ty (f : Nat -> Nat) (t : Ty5) : renD f (tyD t) = tyD t := pure_ren f _ (ty_pure t)
theorem Reads1.ahead {k : FuncId} {l : List Tkn} {deep : Int} {R : Int -> Rs} (h : Reads1 k l deep R) {j : Int} (hj : inR j) (c0 c1 : Cell) : CX (TT ()) k [.bx 2 0,.raw (.int .i64 deep)] [c0,c1,rdc l j] (outQ (R j) fun j => [c0,c1,rdc l j]) := by
 have hone : ∀ j,([rdc l j] : H).all (cellIdb 1) = true := fun j => rdH_idb l j
 refine ((h j hj).frame (h := [c0,c1,rdc l j]) aheadF rfl rfl (rdH_idb l j) (fun i k hi hk e => ?_) (fun i hi => ?_) (fun bo d h' h => ?_)).mono ?_
 ·unfold aheadF at e
  omega
 ·have hi : i < 1 := hi
  obtain rfl : i = 0 := by omega
  show some (renC aheadF (rdc l j)) = some (rdc l j)
  rw [ren_rdc]
 ·unfold outQ at h
  split at h
  ·obtain ⟨rfl,rfl,rfl⟩ := h
   exact ⟨rfl,pure_idb _ _ (ty_pure _),hone _⟩
  ·obtain ⟨rfl,rfl,j',rfl⟩ := h
   exact ⟨rfl,rfl,hone _⟩
 ·rintro bo d h' ⟨d0,h0',h,rfl,rfl⟩
  unfold outQ at h ⊢
  split at h
  ·obtain ⟨rfl,rfl,rfl⟩ := h
   exact ⟨rfl,ren_ty _ _,merge_ahead ..⟩
  ·obtain ⟨rfl,rfl,j',rfl⟩ := h
   exact ⟨rfl,rfl,j',merge_ahead ..⟩
theorem runDef {k : FuncId} {ds : List D} {d0 : D} (hp : pureD d0 = some d0) (h : ∀ Q : D -> H -> Prop,(∀ d h',Wk d d0 -> Q d h') -> defun TT k ds [] Q) : CP (TT ()) k ds (· = d0) := by
 have c : CW (TT ()) k ds [] fun d _ => Wk d d0 := defun_ok (T := TT) (by kernel_rfl) (h (fun d _ => Wk d d0) fun _ _ e => e)
 exact (c.weaken (R := fun d _ => d = d0) fun d h' h => ⟨d0,h,rfl⟩).cp fun d h' h => ⟨d0,by rw [h];exact hp,rfl⟩
theorem closK_of {g : FuncId} {ds : List D} {h : H} {pan : Option D} {K : H -> Prop} (hm : (TT ()).follows .mixedOrders = true) (e : rfun TT g ds h pan K) : ClosK TT g ds h pan K := ⟨K,rfun_ok hm e,fun _ h => h⟩
theorem read_run (l : List Tkn) (deep : Int) (R : Int -> Rs) (hw : Reads1 32 l deep R) (i : Int) (hi : inR i) (Q : D -> H -> Prop) (hQ : ∀ d h',Wk d (readD (R i)) -> Q d h') : defun TT 12 [.sl none 4 (l.map tkD),.raw (.int .i64 i),.raw (.int .i64 deep)] [] Q := by
 have w1 := fun c0 c1 => hw.ahead hi c0 c1
 have hL := tks_idb l
 cases h1 : R i with
 | bad e p =>
  rw [h1] at hQ w1
  have w1 := fun c0 c1 => (bad_ends (w1 c0 c1)).weaken (R := fun b d h' => b = false ∧ d = refR e p ∧ ∃ j,h' = [c0,c1,rdc l j]) fun b d h' h => ⟨refR e p,by rw [h.2.1];exact ref_wk e p,h.1,rfl,h.2.2⟩
  unfold readD at hQ
  simp only at hQ
  unfold refR at w1
  unfold errR at hQ
  unfold rdc at *
  generalize l.map tkD = L at *
  cbv
  (repeat'((first|(apply zS;kernel_rfl)|(apply zD;decide +kernel)|(apply zE;decide +kernel)|(apply zF;decide +kernel)|(apply zL;decide +kernel)|(apply zM;decide +kernel)|(apply zN;intros)|(apply zO;intros)|(apply zT;omega)|(apply zU;omega)|(apply zP;omega;intros)|(apply zQ;omega;intros)|apply zR);cbv))
  refine XCallK.both (w1 _ _) ?_
  rintro b d h' ⟨rfl,rfl,j,rfl⟩
  cbv
  refine closK_of (by kernel_rfl) ?_
  cbv
  (repeat'((first|(apply zS;kernel_rfl)|(apply zD;decide +kernel)|(apply zE;decide +kernel)|(apply zF;decide +kernel)|(apply zL;decide +kernel)|(apply zM;decide +kernel)|(apply zN;intros)|(apply zO;intros)|(apply zT;omega)|(apply zU;omega)|(apply zP;omega;intros)|(apply zQ;omega;intros)|apply zR);cbv))
  refine BinK.anyNe ?_
  cbv
  (repeat'((first|(apply zS;kernel_rfl)|(apply zD;decide +kernel)|(apply zE;decide +kernel)|(apply zF;decide +kernel)|(apply zL;decide +kernel)|(apply zM;decide +kernel)|(apply zN;intros)|(apply zO;intros)|(apply zT;omega)|(apply zU;omega)|(apply zP;omega;intros)|(apply zQ;omega;intros)|apply zR);cbv))
  refine ⟨⟨_,Tryz.underlying66⟩,?_⟩
  cbv
  (repeat'((first|(apply zS;kernel_rfl)|(apply zD;decide +kernel)|(apply zE;decide +kernel)|(apply zF;decide +kernel)|(apply zL;decide +kernel)|(apply zM;decide +kernel)|(apply zN;intros)|(apply zO;intros)|(apply zT;omega)|(apply zU;omega)|(apply zP;omega;intros)|(apply zQ;omega;intros)|apply zR);cbv))
  exact ⟨hQ _ _ (.tup (.cons (simple_wk 0) (.refl _)))⟩
 | ok t to =>
  rw [h1] at hQ w1
  have w1 := fun c0 c1 => ok_ends (w1 c0 c1)
  unfold readD at hQ
  simp only at hQ
  have hpt := ty_pure t
  obtain ⟨n1,m1,L1,K1,f1,i1,j1⟩ := ty_nodeR t
  rw [f1] at w1 hQ hpt
  generalize (match t with | .mk k _ _ _ _ => k) = k1 at w1 hQ hpt
  unfold rdc at *
  generalize l.map tkD = L at *
  cbv
  (repeat'((first|(apply zS;kernel_rfl)|(apply zD;decide +kernel)|(apply zE;decide +kernel)|(apply zF;decide +kernel)|(apply zL;decide +kernel)|(apply zM;decide +kernel)|(apply zN;intros)|(apply zO;intros)|(apply zT;omega)|(apply zU;omega)|(apply zP;omega;intros)|(apply zQ;omega;intros)|apply zR);cbv))
  refine XCallK.mut (w1 _ _) ?_
  rintro d h' ⟨rfl,rfl⟩
  cbv
  (repeat'((first|(apply zS;kernel_rfl)|(apply zD;decide +kernel)|(apply zE;decide +kernel)|(apply zF;decide +kernel)|(apply zL;decide +kernel)|(apply zM;decide +kernel)|(apply zN;intros)|(apply zO;intros)|(apply zT;omega)|(apply zU;omega)|(apply zP;omega;intros)|(apply zQ;omega;intros)|apply zR);cbv))
  refine DDrawK.turn 1 [4] (by decide +kernel) (by kernel_rfl) ?_
  cbv
  (repeat'((first|(apply zS;kernel_rfl)|(apply zD;decide +kernel)|(apply zE;decide +kernel)|(apply zF;decide +kernel)|(apply zL;decide +kernel)|(apply zM;decide +kernel)|(apply zN;intros)|(apply zO;intros)|(apply zT;omega)|(apply zU;omega)|(apply zP;omega;intros)|(apply zQ;omega;intros)|apply zR);cbv))
  refine ⟨by decide +kernel,FreeX.one rfl rfl rfl ?_,?_⟩
  ·repeat' (first | refine List.forall_mem_cons.2 ⟨rfl,?_⟩ | exact fun _ h => absurd h List.not_mem_nil)
  cbv
  (repeat'((first|(apply zS;kernel_rfl)|(apply zD;decide +kernel)|(apply zE;decide +kernel)|(apply zF;decide +kernel)|(apply zL;decide +kernel)|(apply zM;decide +kernel)|(apply zN;intros)|(apply zO;intros)|(apply zT;omega)|(apply zU;omega)|(apply zP;omega;intros)|(apply zQ;omega;intros)|apply zR);cbv))
  refine closK_of (by kernel_rfl) ?_
  cbv
  (repeat'((first|(apply zS;kernel_rfl)|(apply zD;decide +kernel)|(apply zE;decide +kernel)|(apply zF;decide +kernel)|(apply zL;decide +kernel)|(apply zM;decide +kernel)|(apply zN;intros)|(apply zO;intros)|(apply zT;omega)|(apply zU;omega)|(apply zP;omega;intros)|(apply zQ;omega;intros)|apply zR);cbv))
  refine BinK.anyNil ?_
  cbv
  (repeat'((first|(apply zS;kernel_rfl)|(apply zD;decide +kernel)|(apply zE;decide +kernel)|(apply zF;decide +kernel)|(apply zL;decide +kernel)|(apply zM;decide +kernel)|(apply zN;intros)|(apply zO;intros)|(apply zT;omega)|(apply zU;omega)|(apply zP;omega;intros)|(apply zQ;omega;intros)|apply zR);cbv))
  exact ⟨hQ _ _ (.refl _)⟩
theorem read_cp (l : List Tkn) (deep : Int) (R : Int -> Rs) (hw : Reads1 32 l deep R) (i : Int) (hi : inR i) : CP (TT ()) 12 [.sl none 4 (l.map tkD),.raw (.int .i64 i),.raw (.int .i64 deep)] (· = readD (R i)) :=
 runDef (readD_pure _) fun Q hQ => read_run l deep R hw i hi Q hQ
end Go.Proofs.YtkoabcncdjmoeaaGreatDoor

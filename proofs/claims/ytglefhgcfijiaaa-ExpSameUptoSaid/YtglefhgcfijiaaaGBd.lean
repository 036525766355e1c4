/- Parts of the proof: ExP, PwEx, PvX, PvX2. -/
import Derived.MapKept
import Derived.Test.YtglefhgcfijiaaaGAm
import Derived.Test.YtglefhgcfijiaaaGAn
import Derived.Test.YtglefhgcfijiaaaGAo
import Derived.Test.YtglefhgcfijiaaaGAp
import Derived.Test.YtglefhgcfijiaaaGAq
import Derived.Test.YtglefhgcfijiaaaGAr
import Derived.Test.YtglefhgcfijiaaaGAx
import Derived.Test.YtglefhgcfijiaaaGBc
import Derived.Test.YtglefhgcfijiaaaGAd
set_option linter.unusedSimpArgs false
set_option linter.unusedVariables false
set_option maxRecDepth 1000000
set_option maxHeartbeats 40000000
namespace Go.Proofs.Ytglefhgcfijiaaa
open Go.RowKit Pv
theorem sound_off (k n : Int) (nm : ByteArray) (hs : Bool) (ts : List Ty5) (ls : List ByteArray) (ks : List Ex7) (ho : okE (.mk k n nm hs ts ls ks)) (hts : ts.length ≤ 1000000) (hk : ¬ (1 ≤ k ∧ k ≤ 13)) (Q : D -> H -> Prop) (hQ : ∀ h',Q (.raw (.bool (ownE (.mk k n nm hs ts ls ks)))) h') : wfun TT 33 [exD (.mk k n nm hs ts ls ks)] [] Q := by
 have hQ : ∀ h',Q (.raw (.bool false)) h' := by
  rw [show ownE (.mk k n nm hs ts ls ks) = false from decide_eq_false fun h => hk h.1] at hQ
  exact hQ
 have cT := plain_cp ts ho.2.1 hts
 have hLp := strs_pure ls
 have hTp := tys_pure ts
 have hKp := exs_pure ks
 simp only [exD]
 generalize typesB ts = tB at cT
 generalize ls.map strD = LS at hLp ⊢
 generalize tysD ts = TS at cT hTp ⊢
 generalize exsD ks = KS at hKp ⊢
 rcases (show k < 1 ∨ 13 < k by omega) with h | h
 all_goals
  cbv
  (repeat'((first|(apply zS;kernel_rfl)|(apply zD;decide +kernel)|(apply zE;decide +kernel)|(apply zF;decide +kernel)|(apply zL;decide +kernel)|(apply zM;decide +kernel)|(apply zN;intros)|(apply zO;intros)|(apply zT;omega)|(apply zU;omega)|(apply zP;omega;intros)|(apply zQ;omega;intros)|apply zR|(apply yA;omega)|(apply yB;omega)|(apply yC;omega)|(apply yD;omega)|(apply yE;omega)|(apply yF;omega)|(apply yG;omega)|(apply yH;omega)|(apply yI;omega)|(apply yJ;omega)|(apply yK;omega)|(apply yL;omega)|fail);cbv))
  refine .one cT (by simp [pureL,pureD,hTp]) rfl ?_
  rcases tB with _ | _ <;> cbv
  all_goals
   (repeat'((first|(apply zS;kernel_rfl)|(apply zD;decide +kernel)|(apply zE;decide +kernel)|(apply zF;decide +kernel)|(apply zL;decide +kernel)|(apply zM;decide +kernel)|(apply zN;intros)|(apply zO;intros)|(apply zT;omega)|(apply zU;omega)|(apply zP;omega;intros)|(apply zQ;omega;intros)|apply zR|(apply yA;omega)|(apply yB;omega)|(apply yC;omega)|(apply yD;omega)|(apply yE;omega)|(apply yF;omega)|(apply yG;omega)|(apply yH;omega)|(apply yI;omega)|(apply yJ;omega)|(apply yK;omega)|(apply yL;omega)|fail);cbv))
   exact ⟨hQ _⟩
theorem sound_ok : SoundOk := fun e ho hn => by
 obtain ⟨k,n,nm,hs,ts,ls,ks⟩ := e
 have := nodesL_len ts
 simp only [nodesE] at hn
 have ht : ts.length ≤ 1000000 := by omega
 refine c4_run fun Q hQ => ?_
 rcases (show k = 1 ∨ k = 2 ∨ k = 3 ∨ k = 4 ∨ k = 5 ∨ k = 6 ∨ k = 7 ∨ k = 8 ∨ k = 9 ∨ k = 10 ∨ k = 11 ∨ k = 12 ∨ k = 13 ∨ ¬ (1 ≤ k ∧ k ≤ 13) by omega) with h | h | h | h | h | h | h | h | h | h | h | h | h | h
 ·exact sound_run1 k n h nm hs ts ls ks ho ht Q hQ
 ·exact sound_run2 k n h nm hs ts ls ks ho ht Q hQ
 ·exact sound_run3 k n h nm hs ts ls ks ho ht Q hQ
 ·exact sound_run4 k n h nm hs ts ls ks ho ht Q hQ
 ·exact sound_run5 k n h nm hs ts ls ks ho ht Q hQ
 ·exact sound_run6 k n h nm hs ts ls ks ho ht Q hQ
 ·exact sound_run7 k n h nm hs ts ls ks ho ht Q hQ
 ·exact sound_run8 k n h nm hs ts ls ks ho ht Q hQ
 ·exact sound_run9 k n h nm hs ts ls ks ho ht Q hQ
 ·exact sound_run10 k n h nm hs ts ls ks ho ht Q hQ
 ·exact sound_run11 k n h nm hs ts ls ks ho ht Q hQ
 ·exact sound_run12 k n h nm hs ts ls ks ho ht Q hQ
 ·exact sound_run13 k n h nm hs ts ls ks ho ht Q hQ
 ·exact sound_off k n nm hs ts ls ks ho ht h Q hQ
theorem ex_in {S : Nat -> Nat -> Prop} {w : World} {v : Value} {e : Ex7} (ho : okE e) (hn : nodesE e ≤ 1000000) (hS : Okay S w) (h : Pv.Rd (bare S) w (exD e) v) : ∃ v0 v1 v2 v3 v4 v5 v6,v = .agg #[v0,v1,v2,v3,v4,v5,v6] ∧ ExIn S w e v0 v1 v2 v3 v4 v5 v6 := by
 have h' := h
 obtain ⟨k,n,nm,hs,ts,ls,ks⟩ := e
 simp only [exD] at h
 obtain ⟨vs,rfl,u0,r0,rfl,q0,u1,r1,rfl,q1,u2,r2,rfl,q2,u3,r3,rfl,q3,u4,r4,rfl,q4,u5,r5,rfl,q5,u6,r6,rfl,q6,q7⟩ := h
 simp only [Pv.RdL] at q7
 subst q7
 exact ⟨_,_,_,_,_,_,_,rfl,ho,hn,fun b o h => hS.lt b o h,h'⟩
theorem cp_rawE {k : FuncId} {ds : List D} {u : Value} (hc : Callable (TT ()) k) (h : ∀ (S : Nat -> Nat -> Prop) (w : World) (args : List Value),Okay S w -> Pv.RdL (bare S) w ds args -> Calls (TT ()) k args.toArray w fun e w' => e = .returned u ∧ Below w.heap.size w w') : CP (TT ()) k ds (· = .raw u) := by
 refine ⟨hc,fun S w args hS r => (h S w args hS r).mono ?_⟩
 rintro e w' ⟨rfl,hb⟩
 exact ⟨u,S,.raw u,rfl,rfl,hb,fun _ _ h => h,fun b o hs => ⟨Nat.lt_of_lt_of_le (hS.lt b o hs) hb.size,fun _ => hs⟩,rfl⟩
theorem eright_cp (e : Ex7) (ho : okE e) (hn : nodesE e ≤ 1000000) : CP (TT ()) 10 [exD e] (· = .raw (.bool (rightE e))) :=
 cp_rawE (callable_at Try.func10 (by kernel_rfl) rfl) fun S w args hS r => by
  obtain ⟨v,rfl,h⟩ := rdL_one r
  obtain ⟨v0,v1,v2,v3,v4,v5,v6,rfl,hT⟩ := ex_in ho hn hS h
  exact peright_any sound_ok e v0 v1 v2 v3 v4 v5 v6 w hT
theorem enodes_cp (e : Ex7) (ho : okE e) (hn : nodesE e ≤ 1000000) : CP (TT ()) 12 [exD e] (· = .raw (.int .i64 (nodesE e))) :=
 cp_rawE (callable_at Try.func12 (by kernel_rfl) rfl) fun S w args hS r => by
  obtain ⟨v,rfl,h⟩ := rdL_one r
  obtain ⟨v0,v1,v2,v3,v4,v5,v6,rfl,hT⟩ := ex_in ho hn hS h
  exact penodes_any e v0 v1 v2 v3 v4 v5 v6 w hT
theorem edepth_cp (e : Ex7) (ho : okE e) (hn : nodesE e ≤ 1000000) : CP (TT ()) 14 [exD e] (· = .raw (.int .i64 (depthE e))) :=
 cp_rawE (callable_at Try.func14 (by kernel_rfl) rfl) fun S w args hS r => by
  obtain ⟨v,rfl,h⟩ := rdL_one r
  obtain ⟨v0,v1,v2,v3,v4,v5,v6,rfl,hT⟩ := ex_in ho hn hS h
  exact pedepth_any e v0 v1 v2 v3 v4 v5 v6 w hT
theorem ecount_cp (e : Ex7) (ho : okE e) (hn : nodesE e ≤ 1000000) : CP (TT ()) 16 [exD e] (· = .raw (.int .i64 (countE e))) :=
 cp_rawE (callable_at Try.func16 (by kernel_rfl) rfl) fun S w args hS r => by
  obtain ⟨v,rfl,h⟩ := rdL_one r
  obtain ⟨v0,v1,v2,v3,v4,v5,v6,rfl,hT⟩ := ex_in ho hn hS h
  exact pcount_any e v0 v1 v2 v3 v4 v5 v6 w hT (Nat.le_trans (count_nodes e) hn)
theorem ecalls_cp (e : Ex7) (ho : okE e) (hn : nodesE e ≤ 1000000) : CP (TT ()) 22 [exD e] (· = .sl none 1 ((callsE e).map strD)) :=
 cp_row (callable_at Try.func22 (by kernel_rfl) rfl) fun S w args hS r => by
  obtain ⟨v,rfl,h⟩ := rdL_one r
  obtain ⟨v0,v1,v2,v3,v4,v5,v6,rfl,hT⟩ := ex_in ho hn hS h
  refine (pecalls_any e v0 v1 v2 v3 v4 v5 v6 w hT).mono ?_
  rintro r w' ⟨v,L,rfl,hb,hs,hv,_,hnew⟩
  obtain rfl : L = callsE e := varsIs_unique hv (calls_is e)
  exact ⟨v,rfl,hb,hs,hnew⟩
theorem eat_cp (e : Ex7) (j : Int) (ho : okE e) (hn : nodesE e ≤ 1000000) : CP (TT ()) 8 [exD e,.raw (.int .i64 j)] (· = atP (atE e j.toNat)) := by
 refine ⟨callable_at Try.func8 (by kernel_rfl) rfl,fun S w args hS r => ?_⟩
 obtain ⟨v,v',rfl,h,h'⟩ := rdL_two r
 simp only [Pv.Rd] at h'
 subst h'
 obtain ⟨v0,v1,v2,v3,v4,v5,v6,rfl,hT⟩ := ex_in ho hn hS h
 refine (peat_any e j v0 v1 v2 v3 v4 v5 v6 w hT).mono ?_
 rintro r w' ⟨v,rfl,hb,hr⟩
 exact ⟨v,S,_,rfl,rfl,hb,fun _ _ h => h,fun b o hs => ⟨Nat.lt_of_lt_of_le (hS.lt b o hs) hb.size,fun _ => hs⟩,hr⟩
end Go.Proofs.Ytglefhgcfijiaaa
namespace Go.Proofs.Ytglefhgcfijiaaa.Pv
open Go Go.RowKit
mutual
theorem renD_id : ∀ d : D,renD id d = d
 | .any => rfl
 | .raw _ => rfl
 | .sln _ => rfl
 | .agg ds => by simp only [renD,renL_id ds]
 | .tup ds => by simp only [renD,renL_id ds]
 | .sl tag sz ds => by simp only [renD,renL_id ds,Option.map_id_fun,id]
 | .bx _ _ => rfl
 | .ms _ _ _ => rfl
 | .mp _ _ _ _ => rfl
 | .pe d off => by simp only [renD,renD_id d]
 | .fn g a b => by simp only [renD,renL_id a,renL_id b]
 | .ifc t d => by simp only [renD,renD_id d]
theorem renL_id : ∀ ds : List D,renL id ds = ds
 | [] => rfl
 | d :: ds => by simp only [renL,renD_id d,renL_id ds]
end
theorem renC_id (c : Cell) : renC id c = c := by
 cases c <;> simp only [renC,renL_id]
theorem idxOf_id (j : Nat) : ∀ n,idxOf id j n = if j < n then some j else none
 | 0 => rfl
 | n + 1 => by
  simp only [idxOf,id,idxOf_id j n]
  by_cases h : n = j
  ·subst h;simp
  ·rw [if_neg h]
   by_cases h2 : j < n
   ·rw [if_pos h2,if_pos (by omega)]
   ·rw [if_neg h2,if_neg (by omega)]
theorem mergeH_id {h0 h0' rest : H} (hl : h0'.length = h0.length) : mergeH id (h0 ++ rest) h0' = h0' ++ rest := by
 apply List.ext_getElem?
 intro i
 unfold mergeH
 rw [List.getElem?_map]
 by_cases hi : i < (h0 ++ rest).length
 ·rw [List.getElem?_range hi]
  simp only [Option.map_some,idxOf_id]
  by_cases h2 : i < h0'.length
  ·rw [if_pos h2,List.getElem?_append_left h2]
   simp only [renC_id,List.getD_eq_getElem?_getD,List.getElem?_eq_getElem h2,Option.getD_some]
  ·rw [if_neg h2]
   simp only [List.getD_eq_getElem?_getD,List.getElem?_eq_getElem hi,Option.getD_some]
   rw [← List.getElem?_eq_getElem hi,List.getElem?_append_right (by omega),List.getElem?_append_right (by omega),hl]
 ·rw [List.getElem?_eq_none (by simpa using hi),List.getElem?_eq_none (by rw [List.length_append] at *;omega)]
  try rfl
def endOf (b : Bool) (v : Value) : Ending := match b with
 | true => .returned v
 | false => .panicked [{ v,recovered := false }]
def CX (P : Program) (k : FuncId) (ds : List D) (h : H) (Q : Bool -> D -> H -> Prop) : Prop :=
 Callable P k ∧ ∀ (C : Cx) (w : World) (args : List Value),Sim C h w -> RdL C w ds args ->
  Calls P k args.toArray w fun e w' => ∃ b v C' d h',e = endOf b v ∧ Q b d h' ∧ Fw C w C' w' ∧ Sim C' h' w' ∧ Rd C' w' d v
section
variable {P : Program}
theorem CX.mono {k : FuncId} {ds : List D} {h : H} {Q R : Bool -> D -> H -> Prop} (c : CX P k ds h Q) (hq : ∀ b d h',Q b d h' -> R b d h') : CX P k ds h R :=
 ⟨c.1,fun C w args s r => (c.2 C w args s r).mono fun e w' ⟨b,v,C',d,h',h1,h2,h3,h4,h5⟩ => ⟨b,v,C',d,h',h1,hq b d h' h2,h3,h4,h5⟩⟩
theorem CW.cx {k : FuncId} {ds : List D} {h : H} {Q : D -> H -> Prop} {R : Bool -> D -> H -> Prop} (c : CW P k ds h Q) (hq : ∀ d h',Q d h' -> R true d h') : CX P k ds h R :=
 ⟨c.1,fun C w args s r => (c.2 C w args s r).mono fun e w' ⟨v,C',d,h',h1,h2,h3,h4,h5⟩ => ⟨true,v,C',d,h',h1,hq d h' h2,h3,h4,h5⟩⟩
theorem CX.gc {k : FuncId} {ds : List D} {h : H} {Q R : Bool -> D -> H -> Prop} (c : CX P k ds h Q) (hq : ∀ b d h',Q b d h' -> idb h.length d = true ∧ (h'.take h.length).all (cellIdb h.length) = true ∧ R b d (h'.take h.length)) : CX P k ds h R := by
 refine ⟨c.1,fun C w args s r => (c.2 C w args s r).mono ?_⟩
 rintro e w' ⟨b,v,C',d,h',h1,h2,f,s',r'⟩
 obtain ⟨k1,k2,k3⟩ := hq b d h' h2
 exact ⟨b,v,C'.cut h.length,d,h'.take h.length,h1,k3,f.cut s.idb s.idl,s'.cut k2,r'.cut d k1⟩
end
structure XCallK (T : TP) (k : FuncId) (ds : List D) (h : H) (K : Bool -> D -> H -> Prop) : Prop where
 out : ∃ Q,CX (T ()) k ds h Q ∧ ∀ b d h',Q b d h' -> K b d h'
section
variable {T : TP}
theorem XCallK.of {k : FuncId} {ds : List D} {h : H} {K : Bool -> D -> H -> Prop} (c : CallK T k ds h (K true)) : XCallK T k ds h K := by
 obtain ⟨Q,c1,hq⟩ := c.out
 exact ⟨fun b d h' => b = true ∧ Q d h',c1.cx fun d h' q => ⟨rfl,q⟩,fun b d h' ⟨hb,q⟩ => hb ▸ hq d h' q⟩
theorem XCallK.one {k : FuncId} {ds es : List D} {h : H} {K : Bool -> D -> H -> Prop} {d : D} (c : CP (T ()) k es (· = d)) (hds : pureL ds = some es) (hd : pureD d = some d) (hk : K true d h) : XCallK T k ds h K := .of (.one c hds hd hk)
theorem XCallK.both {k : FuncId} {ds : List D} {h : H} {K Q : Bool -> D -> H -> Prop} (c : CX (T ()) k ds h Q) (hk : ∀ b d h',Q b d h' -> K b d h') : XCallK T k ds h K := ⟨Q,c,hk⟩
end
structure MapIs (keys : List ByteArray) (o : Obj) : Prop where
 out : ∃ es clock,o = .map es clock ∧ es.toList.map (fun e => (e.key,e.val)) = keys.map fun k => (Value.string k,Value.agg #[])
theorem bytes_beq (a b : ByteArray) : (a == b) = decide (a = b) := by
 have e : (a == b) = (a.data == b.data) := by cases a;cases b;rfl
 rw [e]
 by_cases h : a = b
 ·subst h
  simp
 ·rw [decide_eq_false h]
  exact beq_eq_false_iff_ne.2 fun h' => h (by cases a;cases b;simp only at h';rw [h'])
theorem find_str {s : ByteArray} : ∀ (es : List MapEntry) (keys : List ByteArray) (i : Nat),es.map (fun e => (e.key,e.val)) = keys.map (fun k => (Value.string k,Value.agg #[])) ->
  (s ∈ keys -> ∃ j,Instr.findNow .string (.string s) es i = some (some (j,.agg #[]))) ∧ (s ∉ keys -> Instr.findNow .string (.string s) es i = some none)
 | [],[],_,_ => ⟨fun h => by simp at h,fun _ => rfl⟩
 | [],_ :: _,_,h => by simp at h
 | _ :: _,[],_,h => by simp at h
 | e :: es,k :: keys,i,h => by
  simp only [List.map_cons,List.cons.injEq,Prod.mk.injEq] at h
  obtain ⟨⟨h1,h2⟩,h3⟩ := h
  obtain ⟨k1,k2⟩ := find_str (s := s) es keys (i + 1) h3
  have e0 : Instr.findNow .string (.string s) (e :: es) i = if s = k then some (some (i,.agg #[])) else Instr.findNow .string (.string s) es (i + 1) := by
   rw [Instr.findNow]
   simp only [h1,h2,Instr.sameNow,bytes_beq]
   by_cases hs : s = k
   ·rw [decide_eq_true hs,if_pos hs]
   ·rw [decide_eq_false hs,if_neg hs]
  refine ⟨fun hm => ?_,fun hm => ?_⟩
  ·rw [e0]
   by_cases hs : s = k
   ·exact ⟨i,if_pos hs⟩
   ·rw [if_neg hs]
    exact k1 ((List.mem_cons.1 hm).resolve_left hs)
  ·rw [e0,if_neg (fun hs => hm (by simp [hs]))]
   exact k2 fun hk => hm (List.mem_cons_of_mem _ hk)
def lkN : List (ByteArray × Int) -> ByteArray -> Int
 | [],_ => 0
 | p :: r,s => if s = p.1 then p.2 else lkN r s
def updN : List (ByteArray × Int) -> ByteArray -> Int -> List (ByteArray × Int)
 | [],s,z => [(s,z)]
 | p :: r,s,z => if s = p.1 then (s,z) :: r else p :: updN r s z
theorem lkN_upd : ∀ (kv : List (ByteArray × Int)) (s : ByteArray) (z : Int) (x : ByteArray),lkN (updN kv s z) x = if x = s then z else lkN kv x
 | [],s,z,x => rfl
 | p :: r,s,z,x => by
  unfold updN
  by_cases h : s = p.1
  ·rw [if_pos h]
   unfold lkN
   simp only
   by_cases hx : x = s
   ·rw [if_pos hx,if_pos hx]
   ·rw [if_neg hx,if_neg hx,if_neg (fun e => hx (e.trans h.symm))]
  ·rw [if_neg h]
   unfold lkN
   rw [lkN_upd r s z x]
   by_cases hx : x = p.1
   ·rw [if_pos hx,if_pos hx,if_neg (fun e => h (e.symm.trans hx))]
   ·rw [if_neg hx,if_neg hx]
structure NMapIs (f : ByteArray -> Int) (o : Obj) : Prop where
 out : ∃ (kv : List (ByteArray × Int)) (es : Array MapEntry) (clock : Nat),o = .map es clock ∧ es.toList.map (fun e => (e.key,e.val)) = kv.map (fun p => (Value.string p.1,Value.int .i64 p.2)) ∧ f = lkN kv
theorem find_num {s : ByteArray} : ∀ (es : List MapEntry) (kv : List (ByteArray × Int)) (i : Nat),es.map (fun e => (e.key,e.val)) = kv.map (fun p => (Value.string p.1,Value.int .i64 p.2)) ->
  (∃ j,Instr.findNow .string (.string s) es i = some (some (i + j,.int .i64 (lkN kv s))) ∧ (∀ z,(es.modify j fun e => { e with key := .string s,val := .int .i64 z }).map (fun e => (e.key,e.val)) = (updN kv s z).map (fun p => (Value.string p.1,Value.int .i64 p.2))) ∧ ∃ e,es[j]? = some e ∧ e.key = .string s) ∨
  (Instr.findNow .string (.string s) es i = some none ∧ lkN kv s = 0 ∧ ∀ z,updN kv s z = kv ++ [(s,z)])
 | [],[],i,_ => .inr ⟨rfl,rfl,fun _ => rfl⟩
 | [],_ :: _,_,h => by simp at h
 | _ :: _,[],_,h => by simp at h
 | e :: es,p :: kv,i,h => by
  simp only [List.map_cons,List.cons.injEq,Prod.mk.injEq] at h
  obtain ⟨⟨h1,h2⟩,h3⟩ := h
  have e0 : Instr.findNow .string (.string s) (e :: es) i = if s = p.1 then some (some (i,.int .i64 p.2)) else Instr.findNow .string (.string s) es (i + 1) := by
   rw [Instr.findNow]
   simp only [h1,h2,Instr.sameNow,bytes_beq]
   by_cases hs : s = p.1
   ·rw [decide_eq_true hs,if_pos hs]
   ·rw [decide_eq_false hs,if_neg hs]
  by_cases hs : s = p.1
  ·refine .inl ⟨0,?_,fun z => ?_,e,rfl,by rw [h1,hs]⟩
   ·rw [e0,if_pos hs,lkN,if_pos hs]
    try rfl
   ·rw [updN,if_pos hs]
    simp [h3]
  ·rcases find_num (s := s) es kv (i + 1) h3 with ⟨j,k1,k2,e',k3,k4⟩ | ⟨k1,k2,k3⟩
   ·refine .inl ⟨j + 1,?_,fun z => ?_,e',by simpa using k3,k4⟩
    ·rw [e0,if_neg hs,k1,lkN,if_neg hs]
     congr 3
     omega
    ·rw [updN,if_neg hs]
     have := k2 z
     simp only [List.modify_succ_cons,List.map_cons,h1,h2,this]
   ·refine .inr ⟨?_,?_,fun z => ?_⟩
    ·rw [e0,if_neg hs]
     exact k1
    ·rw [lkN,if_neg hs]
     exact k2
    ·rw [updN,if_neg hs,k3 z]
     try rfl
section
variable {P : Program} {C : Cx} {h : H} {w : World}
theorem run_check_str {kt : TypeId} (hk : P.underlying kt = some .string) (e : Bool) (s : ByteArray) : (Instr.checkKey e 10000 kt (.string s)).run P w = .ok () w := by
 unfold Instr.checkKey
 simp [run_underlying hk]
theorem run_look {t kt et b : Nat} {s : ByteArray} {keys : List ByteArray} {i : TypeInfo} (ht : P.underlying t = some (.map kt et)) (hk : P.underlying kt = some .string) (hi : P.info? et = some i) (hz : i.zero = some (.agg #[])) {o : Obj} (hb : w.heap[b]? = some o) (hm : MapIs keys o) :
  (s ∈ keys -> (Instr.lookup t (.map (some b)) (.string s) true).run P w = .ok (.tuple #[.agg #[],.bool true]) w) ∧ (s ∉ keys -> (Instr.lookup t (.map (some b)) (.string s) true).run P w = .ok (.tuple #[.agg #[],.bool false]) w) := by
 obtain ⟨es,clock,rfl,he⟩ := hm.out
 obtain ⟨k1,k2⟩ := find_str (s := s) es.toList keys 0 he
 refine ⟨fun hs => ?_,fun hs => ?_⟩
 ·obtain ⟨j,hj⟩ := k1 hs
  simp [Instr.lookup,run_underlying ht,MapKept.run_getObj_map hb,run_check_str hk,Instr.findKey,run_underlying hk,hj]
 ·simp [Instr.lookup,run_underlying ht,MapKept.run_getObj_map hb,run_check_str hk,Instr.findKey,run_underlying hk,k2 hs,zeroValue,typeInfo,hi,hz]
theorem run_put {t kt et b : Nat} {s : ByteArray} {keys : List ByteArray} (ht : P.underlying t = some (.map kt et)) (hk : P.underlying kt = some .string) {o : Obj} (hb : w.heap[b]? = some o) (hm : MapIs keys o) (hs : s ∉ keys) :
  ∃ o',(Instr.mapUpdate t (.map (some b)) (.string s) (.agg #[])).run P w = .ok () { w with heap := w.heap.setIfInBounds b o' } ∧ MapIs (keys ++ [s]) o' := by
 obtain ⟨es,clock,rfl,he⟩ := hm.out
 obtain ⟨_,k2⟩ := find_str (s := s) es.toList keys 0 he
 refine ⟨.map (es.push { key := .string s,val := .agg #[],born := clock }) (clock + 1),?_,⟨_,_,rfl,?_⟩⟩
 ·simp [Instr.mapUpdate,run_underlying ht,MapKept.run_getObj_map hb,run_check_str hk,Instr.findKey,run_underlying hk,k2 hs,MapKept.run_setObj_map _ hb]
 ·simp [he]
theorem keyThatStays_same {s : ByteArray} : (Instr.keyThatStays (.string s) (.string s)).run P w = .ok (.string s) w := by
 have e : Instr.sameBits 10000 (.string s) (.string s) = true := by
  rw [Instr.sameBits,bytes_beq]
  exact decide_eq_true rfl
 unfold Instr.keyThatStays
 rw [if_pos e]
 try rfl
theorem run_look_num {t kt et b : Nat} {s : ByteArray} {f : ByteArray -> Int} {i : TypeInfo} (ht : P.underlying t = some (.map kt et)) (hk : P.underlying kt = some .string) (hi : P.info? et = some i) (hz : i.zero = some (.int .i64 0)) {o : Obj} (hb : w.heap[b]? = some o) (hm : NMapIs f o) :
  (Instr.lookup t (.map (some b)) (.string s) false).run P w = .ok (.int .i64 (f s)) w := by
 obtain ⟨kv,es,clock,rfl,he,hf⟩ := hm.out
 rw [hf]
 rcases find_num (s := s) es.toList kv 0 he with ⟨j,hj,_⟩ | ⟨hj,h0,_⟩
 ·simp [Instr.lookup,run_underlying ht,MapKept.run_getObj_map hb,run_check_str hk,Instr.findKey,run_underlying hk,hj]
 ·simp [Instr.lookup,run_underlying ht,MapKept.run_getObj_map hb,run_check_str hk,Instr.findKey,run_underlying hk,hj,h0,zeroValue,typeInfo,hi,hz]
theorem run_put_num {t kt et b : Nat} {s : ByteArray} {z : Int} {f : ByteArray -> Int} (ht : P.underlying t = some (.map kt et)) (hk : P.underlying kt = some .string) {o : Obj} (hb : w.heap[b]? = some o) (hm : NMapIs f o) :
  ∃ o',(Instr.mapUpdate t (.map (some b)) (.string s) (.int .i64 z)).run P w = .ok () { w with heap := w.heap.setIfInBounds b o' } ∧ NMapIs (fun x => if x = s then z else f x) o' := by
 obtain ⟨kv,es,clock,rfl,he,hf⟩ := hm.out
 have hnew : (fun x => if x = s then z else f x) = lkN (updN kv s z) := by
  funext x
  rw [lkN_upd,hf]
 rw [hnew]
 rcases find_num (s := s) es.toList kv 0 he with ⟨j,hj,hk1,e,hk2,hk3⟩ | ⟨hj,h0,hk1⟩
 ·have hkey : ((es[j]?).map (·.key)).getD (.string s) = .string s := by
   rw [← Array.getElem?_toList,hk2]
   simp [hk3]
  refine ⟨.map (es.modify j fun e => { e with key := .string s,val := .int .i64 z }) clock,?_,⟨updN kv s z,_,_,rfl,?_,rfl⟩⟩
  ·simp [Instr.mapUpdate,run_underlying ht,MapKept.run_getObj_map hb,run_check_str hk,Instr.findKey,run_underlying hk,hj,hkey,keyThatStays_same,MapKept.run_setObj_map _ hb]
  ·have := hk1 z
   rw [← this]
   simp [Array.toList_modify]
 ·refine ⟨.map (es.push { key := .string s,val := .int .i64 z,born := clock }) (clock + 1),?_,⟨updN kv s z,_,_,rfl,?_,rfl⟩⟩
  ·simp [Instr.mapUpdate,run_underlying ht,MapKept.run_getObj_map hb,run_check_str hk,Instr.findKey,run_underlying hk,hj,MapKept.run_setObj_map _ hb]
  ·have := hk1 z
   rw [this]
   simp [he]
theorem Sim.keep_new (s : Sim C h w) (o : Obj) {Q : Obj -> Prop} (hq : Q o) :
  ∃ C',Fw C w C' (w.alloc o) ∧ Sim C' (h ++ [.keep w.heap.size Q]) (w.alloc o) := by
 have s1 := s.alloc o (fun _ => False)
 have f1 := Fw.alloc s o (fun _ => False)
 obtain ⟨fb,fl⟩ := s.fresh
 let C1 := C.grow w (fun _ => False)
 let C' : Cx := { C1 with bx := setf C.bx h.length w.heap.size }
 have hblk : ∀ id b,C'.blk id b -> C.blk id b ∨ (id = h.length ∧ b = w.heap.size) := fun id b hb => by
  rcases hb with hb | hb
  ·by_cases e : id = h.length
   ·subst e
    have : some w.heap.size = some b := (setf_same _ _ _).symm.trans hb
    exact .inr ⟨rfl,(Option.some.inj this).symm⟩
   ·exact .inl (.inl ((setf_other _ _ e).symm.trans hb))
  ·exact .inl (.inr hb)
 have e1 : Ev C1 (w.alloc o) C' (w.alloc o) := ⟨rfl,rfl,rfl,Nat.le_refl _,fun _ _ h => h,fun _ _ _ => rfl,fun id b hb => by
  have : id ≠ h.length := fun e => by subst e;rw [show C1.bx h.length = none from fb] at hb;cases hb
  exact (setf_other _ _ this).trans hb,fun _ u h => ⟨u,h,.inl rfl⟩⟩
 have f : Fw C w C' (w.alloc o) := by
  have e0 := f1.toEv
  refine ⟨⟨rfl,rfl,rfl,e0.size,e0.sub,e0.cell,fun id b hb => e1.bx id b hb,fun id u hu => ⟨u,hu,.inl rfl⟩⟩,f1.frame,fun id b hb hlt => ?_,f1.new⟩
  rcases hblk id b hb with h' | ⟨_,rfl⟩
  ·exact ⟨id,h'⟩
  ·omega
 refine ⟨C',f,⟨s1.S,fun id t' ds' e => ?_,fun id e sz n e' => ?_,fun id b hb => ?_,fun id b hb => ?_,fun id u hu => ?_,fun id id' b hb hb' => ?_,fun id b hb => ?_,fun id b Q' e => ?_⟩⟩
 ·rcases ids_old e with ⟨_,e⟩ | ⟨_,e⟩
  ·obtain ⟨b,vs',h2,h3,h4,h5,h6⟩ := s1.box id t' ds' e
   exact ⟨b,vs',e1.bx id b h2,h3,h4.mono e1,h5,h6⟩
  ·cases e
 ·rcases ids_old e' with ⟨_,e'⟩ | ⟨_,e'⟩
  ·exact s1.log id e sz n e'
  ·cases e'
 ·rcases hblk id b hb with h' | ⟨_,rfl⟩
  ·exact s1.lt id b h'
  ·simp
 ·by_cases e : id = h.length
  ·simp [e]
  ·have := s.idb id b ((setf_other _ _ e).symm.trans hb)
   simp;omega
 ·have := s.idl id u hu
  simp;omega
 ·rcases hblk id b hb with h2 | ⟨rfl,rfl⟩ <;> rcases hblk id' _ hb' with h3 | ⟨rfl,e⟩
  ·exact s.inj id id' b h2 h3
  ·subst e;exact absurd (s.lt id _ h2) (Nat.lt_irrefl _)
  ·exact absurd (s.lt id' _ h3) (Nat.lt_irrefl _)
  ·rfl
 ·by_cases e : id = h.length
  ·subst e;exact fl
  ·exact s.one id b ((setf_other _ _ e).symm.trans hb)
 ·rcases ids_old e with ⟨_,e⟩ | ⟨hid,e0⟩
  ·obtain ⟨h2,h3,h4⟩ := s1.keep id b Q' e
   exact ⟨e1.bx id b h2,h3,h4⟩
  ·subst hid
   clear e
   cases e0
   refine ⟨setf_same _ _ _,⟨o,heap_alloc_new w _,hq⟩,fun o' hs => ?_⟩
   rcases hs with hs | ⟨_,hf⟩
   ·exact Nat.lt_irrefl _ (s.S _ _ hs)
   ·exact hf
theorem Sim.keep_set (s : Sim C h w) {id b : Nat} {Q Q' : Obj -> Prop} (hid : h[id]? = some (.keep b Q)) {o' : Obj} (hq : Q' o') :
  Fw C w C { w with heap := w.heap.setIfInBounds b o' } ∧ Sim C (h.set id (.keep b Q')) { w with heap := w.heap.setIfInBounds b o' } := by
 obtain ⟨hbx,⟨o,ho,_⟩,hS⟩ := s.keep id b Q hid
 have hlt : b < w.heap.size := s.lt id b (.inl hbx)
 have hidl : id < h.length := (List.getElem?_eq_some_iff.1 hid).1
 generalize hw : ({ w with heap := w.heap.setIfInBounds b o' } : World) = w'
 have other : ∀ k,k ≠ b -> w'.heap[k]? = w.heap[k]? := fun k hk => by
  rw [← hw]
  have hk' : b ≠ k := fun e => hk e.symm
  simp [Array.getElem?_setIfInBounds,hk']
 have new : w'.heap[b]? = some o' := by rw [← hw];simp [hlt]
 have hsz : w'.heap.size = w.heap.size := by rw [← hw];simp
 have ev : Ev C w C w' := ⟨by rw [← hw],by rw [← hw],by rw [← hw],by omega,fun _ _ h => h,fun b0 o0 hs => World.cell?_of_block (w := w) (w' := w') (other b0 fun e => hS o0 (e ▸ hs)),fun _ _ h => h,fun _ u h => ⟨u,h,.inl rfl⟩⟩
 have f : Fw C w C w' := ⟨ev,fun b0 _ hn => other b0 fun e => hn id (.inl (e ▸ hbx)),fun id0 b0 hk _ => ⟨id0,hk⟩,fun _ _ h _ => .inl h⟩
 refine ⟨f,⟨s.S.mono ev fun b0 o0 hs => by rw [hsz];exact s.S b0 o0 hs,fun id0 t ds e => ?_,fun id0 e sz n e' => ?_,fun id0 b0 hb => by rw [hsz];exact s.lt id0 b0 hb,fun id0 b0 hb => by rw [List.length_set];exact s.idb id0 b0 hb,fun id0 u hu => by rw [List.length_set];exact s.idl id0 u hu,s.inj,s.one,fun id0 b0 Q0 e => ?_⟩⟩
 ·obtain ⟨hi,e⟩ := set_old e (fun h => by cases h)
  obtain ⟨b0,vs,h1,h2,h3,h4,h5⟩ := s.box id0 t ds e
  exact ⟨b0,vs,h1,(other b0 fun e => hi (s.inj id0 id b (.inl (e ▸ h1)) (.inl hbx))).trans h2,h3.mono ev,h4,h5⟩
 ·obtain ⟨hi,e'⟩ := set_old e' (fun h => by cases h)
  obtain ⟨u,xs,h1,h2,h3⟩ := s.log id0 e sz n e'
  exact ⟨u,xs,h1,own_block h2 fun b0 hb0 => other b0 fun e => hi (s.inj id0 id b (.inr ⟨u,h1,e ▸ hb0⟩) (.inl hbx)),h3⟩
 ·by_cases hi : id0 = id
  ·subst hi
   rw [List.getElem?_set_self hidl] at e
   cases e
   exact ⟨hbx,⟨o',new,hq⟩,hS⟩
  ·rw [List.getElem?_set_ne (fun e => hi e.symm)] at e
   obtain ⟨h1,⟨x,h2,h3⟩,h4⟩ := s.keep id0 b0 Q0 e
   exact ⟨h1,⟨x,(other b0 fun e => hi (s.inj id0 id b (.inl (e ▸ h1)) (.inl hbx))).trans h2,h3⟩,h4⟩
end
structure MakeMapK (h : H) (K : D -> H -> Prop) : Prop where
 out : ∀ b,K (.raw (.map (some b))) (h ++ [.keep b (MapIs [])])
structure LookK (T : TP) (t : TypeId) (b : Nat) (s : ByteArray) (h : H) (K : D -> Prop) : Prop where
 out : ∃ (id : Nat) (keys : List ByteArray) (kt et : TypeId) (i : TypeInfo),h[id]? = some (Cell.keep b (MapIs keys)) ∧ (T ()).underlying t = some (.map kt et) ∧ (T ()).underlying kt = some .string ∧ (T ()).info? et = some i ∧ i.zero = some (.agg #[]) ∧ (s ∈ keys -> K (.raw (.tuple #[.agg #[],.bool true]))) ∧ (s ∉ keys -> K (.raw (.tuple #[.agg #[],.bool false])))
structure PutK (T : TP) (t : TypeId) (b : Nat) (s : ByteArray) (h : H) (K : H -> Prop) : Prop where
 out : ∃ (id : Nat) (keys : List ByteArray) (kt et : TypeId),h[id]? = some (Cell.keep b (MapIs keys)) ∧ (T ()).underlying t = some (.map kt et) ∧ (T ()).underlying kt = some .string ∧ s ∉ keys ∧ K (h.set id (.keep b (MapIs (keys ++ [s]))))
structure MakeNK (T : TP) (t : TypeId) (h : H) (K : D -> H -> Prop) : Prop where
 out : ∃ kt et,(T ()).underlying t = some (.map kt et) ∧ ∀ b f,f = (fun _ => (0 : Int)) -> K (.raw (.map (some b))) (h ++ [.keep b (NMapIs f)])
structure LookNK (T : TP) (t : TypeId) (b : Nat) (s : ByteArray) (h : H) (K : D -> Prop) : Prop where
 out : ∃ (id : Nat) (f : ByteArray -> Int) (kt et : TypeId) (i : TypeInfo),h[id]? = some (Cell.keep b (NMapIs f)) ∧ (T ()).underlying t = some (.map kt et) ∧ (T ()).underlying kt = some .string ∧ (T ()).info? et = some i ∧ i.zero = some (.int .i64 0) ∧ K (.raw (.int .i64 (f s)))
structure PutNK (T : TP) (t : TypeId) (b : Nat) (s : ByteArray) (z : Int) (h : H) (K : H -> Prop) : Prop where
 out : ∃ (id : Nat) (f : ByteArray -> Int) (kt et : TypeId),h[id]? = some (Cell.keep b (NMapIs f)) ∧ (T ()).underlying t = some (.map kt et) ∧ (T ()).underlying kt = some .string ∧ ∀ g,g = (fun x => if x = s then z else f x) -> K (h.set id (.keep b (NMapIs g)))
def yop (T : TP) (own : Bool) (ρ : Operand -> D) (o : Oper) (h : H) (R K : D -> H -> Prop) : Prop :=
 match o.op with
 | .panic x => match ρ x with
  | .ifc t d => R (.ifc t d) h
  | .raw (.iface t v) => R (.raw (.iface t v)) h
  | _ => False
 | .makeMap _ none => MakeMapK h K
 | .lookup t m k true => match ρ m,ρ k with
  | .raw (.map (some b)),.raw (.string s) => LookK T t b s h fun d => K d h
  | _,_ => False
 | .mapUpdate t m k v => match ρ m,ρ k,ρ v with
  | .raw (.map (some b)),.raw (.string s),.agg [] => PutK T t b s h fun h' => K .any h'
  | .raw (.map (some b)),.raw (.string s),.raw (.int .i64 z) => PutNK T t b s z h fun h' => K .any h'
  | _,_,_ => False
 | .makeMap t (some n) => match ρ n with
  | .raw (.int .i64 _) => MakeNK T t h K
  | _ => False
 | .lookup t m k false => match ρ m,ρ k with
  | .raw (.map (some b)),.raw (.string s) => LookNK T t b s h fun d => K d h
  | _,_ => False
 | .call c => match c.callee with
  | .value f => match fnD (ρ f) with
   | some (k,first,cap) => XCallK T k (first ++ c.args.toList.map ρ ++ cap) h fun b d h' => match b with
    | true => K d h'
    | false => R d h'
   | none => False
  | _ => wop T own ρ o h K
 | _ => wop T own ρ o h K
theorem call_args {C : Cx} {w : World} {ρ : Operand -> D} {a : Act} (hr : Reads C w ρ a.eval) {f : Operand} {args : Array Operand} {k : FuncId} {first cap : List D} (hf : fnD (ρ f) = some (k,first,cap)) :
  ∃ x y,a.eval f = .func (.func k) x y ∧ RdL C w (first ++ args.toList.map ρ ++ cap) (x.toList ++ args.toList.map a.eval ++ y.toList) := by
 have hfr := hr f
 unfold fnD at hf
 split at hf
 ·rename_i k' x y hv
  cases hf
  rw [hv] at hfr
  simp only [Rd] at hfr
  exact ⟨x,y,hfr,((RdL.raws C w _).app (hr.map _)).app (RdL.raws C w _)⟩
 ·rename_i k' x y hv
  cases hf
  rw [hv] at hfr
  simp only [Rd] at hfr
  obtain ⟨vs,us,e1,r1,r2⟩ := hfr
  exact ⟨_,_,e1,by simpa using (r1.app (hr.map _)).app r2⟩
 ·cases hf
theorem call_run {P : Program} {a : Act} {w : World} {o : Oper} {f : Operand} {args : Array Operand} {ats : Array TypeId} (ho : o.op = .call { callee := .value f,args := args,argTypes := ats }) {k : FuncId} {x y : Array Value} (hev : a.eval f = .func (.func k) x y) (hcal : Callable P k) :
  (execOp a.eval o).run P w = .ok (.enter k ((x.toList ++ args.toList.map a.eval ++ y.toList).toArray)) w := by
 simp only [execOp,ho,Sem.run_bind,resolve,hev,Deferred.ofValue,Sem.run_pure,Result.andThen_ok,invoke]
 rw [callable_run hcal]
 congr 2
 apply Array.ext'
 simp
section
variable {T : TP}
theorem yop_sound {C : Cx} {h : H} {w : World} (s : Sim C h w) {ρ : Operand -> D} {a : Act} (hr : Reads C w ρ a.eval) {o : Oper} {own : Bool} {R K : D -> H -> Prop} (e : yop T own ρ o h R K) {Rw : Act -> World -> Prop} {Q : Exit -> Act -> World -> Prop}
  (hk : ∀ d h' v C' w',K d h' -> Fw C w C' w' -> Sim C' h' w' -> Rd C' w' d v -> Rw (a.put o.dst v) w')
  (hp : ∀ d h' v C' w',R d h' -> Fw C w C' w' -> Sim C' h' w' -> Rd C' w' d v -> Q (.panic [{ v,recovered := false }]) a w') : o.wp (T ()) a w Rw Q := by
 unfold yop at e
 split at e
 ·rename_i x ho
  have hx := hr x
  have hrun : ∀ t v,a.eval x = .iface t v -> (execOp a.eval o).run (T ()) w = .halt (.panic (.iface t v)) w := fun t v hv => by
   simp only [execOp,ho,Sem.run_bind,hv,Instr.panic]
   try rfl
  split at e
  ·rename_i t d hd
   rw [hd] at hx
   obtain ⟨u,hu,hru⟩ := hx
   unfold Oper.wp
   rw [hrun t u hu,Oper.upon_panic]
   exact hp _ _ _ C w e (Fw.refl _ _) s ⟨u,rfl,hru⟩
  ·rename_i t v hd
   rw [hd] at hx
   simp only [Rd] at hx
   unfold Oper.wp
   rw [hrun t v hx,Oper.upon_panic]
   exact hp _ _ _ C w e (Fw.refl _ _) s rfl
  ·exact e.elim
 ·rename_i t ho
  obtain ⟨C',f,s'⟩ := s.keep_new (.map #[] 0) (Q := MapIs []) ⟨#[],0,rfl,rfl⟩
  refine wp_of_value (w' := w.alloc (.map #[] 0)) (v := .map (some w.heap.size)) ?_ (hk _ _ _ C' _ (e.out w.heap.size) f s' rfl)
  simp only [execOp,ho]
  try rfl
 ·rename_i t m k ho
  split at e
  ·rename_i b st hm hkk
   obtain ⟨id,keys,kt,et,i,h1,h2,h3,h4,h5,h6,h7⟩ := e.out
   have hmv := hr m
   have hkv := hr k
   rw [hm] at hmv
   rw [hkk] at hkv
   simp only [Rd] at hmv hkv
   obtain ⟨hbx,⟨ob,ho1,ho2⟩,_⟩ := s.keep id b _ h1
   obtain ⟨hr1,hr2⟩ := run_look (w := w) (s := st) h2 h3 h4 h5 ho1 ho2
   by_cases hs : st ∈ keys
   ·exact wp_of_value (w' := w) (v := .tuple #[.agg #[],.bool true]) (by simp [execOp,ho,hmv,hkv,hr1 hs]) (hk _ _ _ C w (h6 hs) (Fw.refl _ _) s rfl)
   ·exact wp_of_value (w' := w) (v := .tuple #[.agg #[],.bool false]) (by simp [execOp,ho,hmv,hkv,hr2 hs]) (hk _ _ _ C w (h7 hs) (Fw.refl _ _) s rfl)
  ·exact e.elim
 ·rename_i t m k v ho
  split at e
  ·rename_i b st hm hkk hvv
   obtain ⟨id,keys,kt,et,h1,h2,h3,h4,h5⟩ := e.out
   have hmv := hr m
   have hkv := hr k
   have hvr := hr v
   rw [hm] at hmv
   rw [hkk] at hkv
   rw [hvv] at hvr
   simp only [Rd] at hmv hkv
   obtain ⟨vs,hvs,hnil⟩ := hvr
   simp only [RdL] at hnil
   subst hnil
   obtain ⟨hbx,⟨ob,ho1,ho2⟩,_⟩ := s.keep id b _ h1
   obtain ⟨o',hrun,hm'⟩ := run_put (w := w) (s := st) h2 h3 ho1 ho2 h4
   obtain ⟨f,s'⟩ := s.keep_set h1 hm'
   unfold Oper.wp
   have hex : (execOp a.eval o).run (T ()) w = .ok .skip { w with heap := w.heap.setIfInBounds b o' } := by
    simp only [execOp,ho,hmv,hkv,hvs,Sem.run_bind,hrun]
    try rfl
   rw [hex,Oper.upon_skip]
   exact hk _ _ _ C _ h5 f s' trivial
  ·rename_i b st z hm hkk hvv
   obtain ⟨id,g,kt,et,h1,h2,h3,h5⟩ := e.out
   have hmv := hr m
   have hkv := hr k
   have hvr := hr v
   rw [hm] at hmv
   rw [hkk] at hkv
   rw [hvv] at hvr
   simp only [Rd] at hmv hkv hvr
   obtain ⟨hbx,⟨ob,ho1,ho2⟩,_⟩ := s.keep id b _ h1
   obtain ⟨o',hrun,hm'⟩ := run_put_num (w := w) (s := st) (z := z) h2 h3 ho1 ho2
   obtain ⟨f,s'⟩ := s.keep_set h1 hm'
   unfold Oper.wp
   have hex : (execOp a.eval o).run (T ()) w = .ok .skip { w with heap := w.heap.setIfInBounds b o' } := by
    simp only [execOp,ho,hmv,hkv,hvr,Sem.run_bind,hrun]
    try rfl
   rw [hex,Oper.upon_skip]
   exact hk _ _ _ C _ (h5 _ rfl) f s' trivial
  ·exact e.elim
 ·rename_i t n ho
  split at e
  ·rename_i z hn
   obtain ⟨kt,et,h2,h3⟩ := e.out
   have hnv := hr n
   rw [hn] at hnv
   simp only [Rd] at hnv
   obtain ⟨C',f,s'⟩ := s.keep_new (.map #[] 0) (Q := NMapIs fun _ => 0) ⟨[],#[],0,rfl,rfl,rfl⟩
   refine wp_of_value (w' := w.alloc (.map #[] 0)) (v := .map (some w.heap.size)) ?_ (hk _ _ _ C' _ (h3 w.heap.size _ rfl) f s' rfl)
   simp only [execOp,ho,Option.map_some,hnv,Instr.makeMap,Sem.run_bind,run_underlying h2]
   try rfl
  ·exact e.elim
 ·rename_i t m k ho
  split at e
  ·rename_i b st hm hkk
   obtain ⟨id,g,kt,et,i,h1,h2,h3,h4,h5,h6⟩ := e.out
   have hmv := hr m
   have hkv := hr k
   rw [hm] at hmv
   rw [hkk] at hkv
   simp only [Rd] at hmv hkv
   obtain ⟨hbx,⟨ob,ho1,ho2⟩,_⟩ := s.keep id b _ h1
   have hr1 := run_look_num (w := w) (s := st) h2 h3 h4 h5 ho1 ho2
   exact wp_of_value (w' := w) (v := .int .i64 (g st)) (by simp [execOp,ho,hmv,hkv,hr1]) (hk _ _ _ C w h6 (Fw.refl _ _) s rfl)
  ·exact e.elim
 ·rename_i c ho
  split at e
  ·rename_i f hc
   split at e
   ·rename_i k first cap hf
    obtain ⟨Q',⟨hcal,hret⟩,hq⟩ := e.out
    obtain ⟨callee,args,argTypes⟩ := c
    simp only at hc
    subst hc
    obtain ⟨x,y,hev,hargs⟩ := call_args (args := args) hr hf
    unfold Oper.wp
    rw [call_run ho hev hcal,Oper.upon_enter]
    refine Calls.mono (hret C w _ s hargs) ?_
    rintro e' w' ⟨b,v,C',d,h',rfl,k0,k1,k2,k3⟩
    have := hq b d h' k0
    cases b with
    | true => exact hk d h' v C' w' this k1 k2 k3
    | false => exact hp d h' v C' w' this k1 k2 k3
   ·exact e.elim
  ·exact wop_sound s hr e hk
 ·exact wop_sound s hr e hk
end
section
variable {P : Program}
def ordX (l : List Oper) (n m : Nat) (free : List Nat) : Bool :=
 let L := ancL l n n
 (List.range m).all fun j => match l[j]? with
  | some oj => !isTurn oj || (List.range m).all fun i => match l[i]? with
   | some oi => decide (i = j) || !(isTurn oi || (isLoad oi && !free.contains i)) || (if i < j then (L.getD j []).contains i else (L.getD i []).contains j)
   | none => true
  | none => true
structure PanicsP (P : Program) (ρ : Operand -> D) (o : Oper) (h : H) (R : D -> H -> Prop) : Prop where
 out : ∀ (C : Cx) (w : World) (a : Act),Sim C h w -> Reads C w ρ a.eval -> ∀ (Rw : Act -> World -> Prop) (Q : Exit -> Act -> World -> Prop),(∀ d h' v C' w',R d h' -> Fw C w C' w' -> Sim C' h' w' -> Rd C' w' d v -> Q (.panic [{ v,recovered := false }]) a w') -> o.wp P a w Rw Q
structure XRun (P : Program) (l : List Oper) (n m : Nat) (ts : List D) (h : H) (vs : List D) (hst : List H) : Prop where
 len : vs.length = m
 len2 : hst.length = m + 1
 zero : hst.getD 0 [] = h
 spec : ∀ i,i < m -> ∃ o d,l[i]? = some o ∧ vs[i]? = some d ∧ TStep P l n ts (vs.take i) (hst.getD i []) o d (hst.getD (i + 1) [])
def FreeX (P : Program) (l : List Oper) (n m : Nat) (ts vs : List D) (hst : List H) (free : List Nat) : Prop := ∀ i,i < m -> free.contains i = true -> ∀ p,p ≤ m -> ∃ o d,l[i]? = some o ∧ vs[i]? = some d ∧ sop P (lval l n ts (vs.take i) o) o (hst.getD p []) = some d
structure LInvX (C : Cx) (W : World) (l : List Oper) (n m : Nat) (vs : List D) (hst : List H) (a0 : Act) (listed : Array Bool) (a : Act) (w : World) (Cx' : Cx) : Prop where
 fw : Fw C W Cx' w
 defers : a.defers = a0.defers
 size : a.tmps.size = a0.tmps.size
 at_ : ∃ p,p ≤ m ∧ (∀ j o,j < m -> l[j]? = some o -> isTurn o = true -> (listed.getD j false = true ↔ j < p)) ∧ Sim Cx' (hst.getD p []) w
 other : ∀ t,(∀ i,i < n -> dstAt l i ≠ some t) -> a.tmps[t]? = a0.tmps[t]?
 val : ∀ k t,k < m -> listed.getD k false = true -> dstAt l k = some t -> ∃ v,a.tmps[t]? = some v ∧ Rd Cx' w (vs.getD k .any) v
 off : ∀ k,m ≤ k -> k < n -> listed.getD k false = false
theorem hst_sameX {l : List Oper} {n m : Nat} {ts : List D} {vs : List D} {hst : List H} (hspec : ∀ i,i < m -> ∃ o d,l[i]? = some o ∧ vs[i]? = some d ∧ TStep P l n ts (vs.take i) (hst.getD i []) o d (hst.getD (i + 1) [])) {p : Nat} : ∀ {q : Nat},p ≤ q -> q ≤ m -> (∀ j o,p ≤ j -> j < q -> l[j]? = some o -> isTurn o = false) -> hst.getD q [] = hst.getD p []
 | 0,hpq,_,_ => by
  have : p = 0 := by omega
  rw [this]
 | q + 1,hpq,hq,hno => by
  by_cases e : p = q + 1
  ·rw [e]
  ·obtain ⟨o,d,h1,h2,h3⟩ := hspec q (by omega)
   have hs := hno q o (by omega) (by omega) h1
   have : hst.getD (q + 1) [] = hst.getD q [] := by
    rcases h3 with ⟨_,h3,_⟩ | ⟨_,_,_,h3⟩ | ⟨_,_,h3⟩
    ·rw [hs] at h3
     cases h3
    ·exact h3
    ·exact h3
   rw [this]
   exact hst_sameX hspec (by omega) (by omega) fun j o h1 h2 h3 => hno j o h1 (by omega) h3
theorem aturnX_core (hm : P.follows .mixedOrders = true) {l : List Oper} {n m : Nat} {ts : List D} {h : H} {vs : List D} {hst : List H} {free : List Nat} {Rp : D -> H -> Prop} (hmn : m ≤ n) (hr : XRun P l n m ts h vs hst) (hst4 : headB .any l.toArray n = true ∧ dstsB l.toArray n ts.length = true ∧ waitsB l n = true ∧ ordX l n (min (m + 1) n) free = true) (hfree : FreeX P l n m ts vs hst free)
  (hpan : m < n -> (∃ o,l[m]? = some o ∧ isTurn o = true ∧ lwanted l vs o = some true ∧ PanicsP P (lval l n ts vs o) o (hst.getD m []) Rp) ∧ ∀ k,m < k -> k < n -> ((ancL l n n).getD k []).contains m = true)
  (id : Nat) {C : Cx} {w : World} {a0 : Act} {Q : Exit -> Act -> World -> Prop} (s : Sim C h w) (ta : TA C w ts a0)
  (hpq : ∀ d h' a' C' w' v,Rp d h' -> Fw C w C' w' -> Sim C' h' w' -> Rd C' w' d v -> a'.defers = [] -> Q (.panic [{ v,recovered := false }]) a' w')
  (hk : m = n -> ∀ a' C' w',Fw C w C' w' -> Sim C' (hst.getD n []) w' -> TA C' w' (lputs l vs n ts) a' -> wpList P l.toArray Q (l.drop n) a' w') : (Code.region id l.toArray true).wp P Q a0 w := by
 obtain ⟨hB,hd,hw,hord⟩ := hst4
 obtain ⟨hlen,hlen2,hz,hspec⟩ := hr
 obtain ⟨s1,f1⟩ := s.drew
 have ta1 := ta.mono f1.toEv
 have hnsz : n ≤ l.toArray.size := by
  simp only [headB,Bool.and_eq_true,decide_eq_true_eq] at hB
  exact hB.1.1.2
 have hsz : ts.length ≤ a0.tmps.size := by have := ta.rd.len;simp at this;omega
 have hdst : ∀ k k' t,k < n -> k' < n -> dstAt l k = some t -> dstAt l k' = some t -> k = k' := fun k k' t hkn hkn' e1 e2 => by
  by_cases hkk : k = k'
  ·exact hkk
  ·exact absurd ((getElem?_bind_toArray l k').trans e2) (dstsB_ne hd hkn hkn' hkk ((getElem?_bind_toArray l k).trans e1))
 have hdlt : ∀ k t,k < n -> dstAt l k = some t -> t < ts.length := fun k t hkn e1 => dstsB_lt hd hkn ((getElem?_bind_toArray l k).trans e1)
 refine wp_region_any hm ?_
 have H := wpAny_inv (P := P) (md := .any) (ops := l.toArray) (n := n) (Q := Q) (Inv := fun listed a x => ∃ Cx',LInvX C w.drew l n m vs hst a0 listed a x Cx') hB ?_ ?_ n (Array.replicate l.toArray.size false) a0 w.drew
  ⟨by simp,fun j oj _ hl => (by rw [getD_replicate_false] at hl;cases hl),fun t _ ht => getD_in (by simpa using ht) (getD_replicate_false _ _)⟩ ?_
  ⟨C,Fw.refl _ _,rfl,rfl,⟨0,Nat.zero_le _,fun j o _ _ _ => ⟨fun hl => (by rw [getD_replicate_false] at hl;cases hl),fun h0 => absurd h0 (Nat.not_lt_zero _)⟩,by rw [hz];exact s1⟩,fun _ _ => rfl,fun k t _ hl => (by rw [getD_replicate_false] at hl;cases hl),fun k _ _ => getD_replicate_false _ _⟩
 ·rw [show n + (l.toArray.size - n) = l.toArray.size by omega] at H
  exact H
 ·
  rintro listed a x i inv hrd hi ⟨Cy,I⟩
  obtain ⟨hun,o,ho,hall⟩ := mem_ready.1 hrd
  have hoi : l[i]? = some o := by simpa using ho
  have hunf : listed.getD i false = false := getD_both hun
  have hisz : i < listed.size := by
   rw [inv.size]
   omega
  have hlw : ∀ k,waits l.toArray i k = true -> listed.getD k false = true := fun k hwk => by
   obtain ⟨oj,hoj,e',he',hbd,hon⟩ := Region.waitsFor_spec hwk
   have : oj = o := Option.some.inj (hoj.symm.trans ho)
   subst this
   have := hall e' he' hbd
   rwa [hon] at this
  have hclo : ∀ j k,waits l.toArray j k = true -> listed.getD j false = true -> listed.getD k false = true := fun j k hwk hl => by
   obtain ⟨oj,hoj,e',he',hbd,hon⟩ := Region.waitsFor_spec hwk
   have := inv.closed j oj hoj hl e' he' hbd
   rwa [hon] at this
  obtain ⟨hal,hanc⟩ := ancL_spec (n := n) hclo n
  have hlm : ∀ k,k < n -> listed.getD k false = true -> k < m := fun k hkn hl => by
   rcases Nat.lt_or_ge k m with h1 | h1
   ·exact h1
   ·rw [I.off k h1 hkn] at hl
    cases hl
  have him : i ≤ m := by
   rcases Nat.lt_or_ge m i with h1 | h1
   ·have h2 := (hpan (by omega)).2 i h1 hi
    have h3 := hanc i hi m (by simpa using h2) hlw
    have := hlm m (by omega) h3
    omega
   ·exact h1
  obtain ⟨p,hpn,hpw,sp⟩ := I.at_
  have hwi := List.all_eq_true.1 hw i (List.mem_range.2 hi)
  rw [hoi] at hwi
  simp only [Bool.and_eq_true] at hwi
  have ordS : ∀ j oj,j < m -> l[j]? = some oj -> isTurn oj = true -> i ≠ j -> (isTurn o = true ∨ (isLoad o = true ∧ free.contains i = false)) -> (if i < j then ((ancL l n n).getD j []).contains i else ((ancL l n n).getD i []).contains j) = true := fun j oj hj hoj hs hne hm => by
   have h1 := List.all_eq_true.1 hord j (List.mem_range.2 (by omega))
   rw [hoj] at h1
   simp only [hs,Bool.not_true,Bool.false_or] at h1
   have h2 := List.all_eq_true.1 h1 i (List.mem_range.2 (by omega))
   rw [hoi] at h2
   simp only [Bool.or_eq_true,decide_eq_true_eq,Bool.not_eq_true'] at h2
   rcases h2 with (h2 | h2) | h2
   ·exact absurd h2 hne
   ·rcases hm with hm | ⟨hm,hf⟩
    ·simp [hm] at h2
    ·rw [hm,hf] at h2
     simp at h2
   ·exact h2
  have here : (isTurn o = true ∨ (isLoad o = true ∧ free.contains i = false)) -> hst.getD p [] = hst.getD i [] := fun hmem => by
   rcases Nat.le_total p i with hpi | hip
   ·refine (hst_sameX hspec hpi (by omega) fun j oj h1 h2 h3 => ?_).symm
    cases hs : isTurn oj with
    | false => rfl
    | true =>
     have h4 := ordS j oj (by omega) h3 hs (by omega) hmem
     rw [if_neg (by omega)] at h4
     have h5 := hanc i hi j (by simpa using h4) hlw
     have := (hpw j oj (by omega) h3 hs).1 h5
     omega
   ·refine hst_sameX hspec hip hpn fun j oj h1 h2 h3 => ?_
    cases hs : isTurn oj with
    | false => rfl
    | true =>
     have h5 := (hpw j oj (by omega) h3 hs).2 h2
     by_cases hij : i = j
     ·subst hij
      rw [hunf] at h5
      cases h5
     ·have h4 := ordS j oj (by omega) h3 hs hij hmem
      rw [if_pos (by omega)] at h4
      have h6 := hanc j (by omega) i (by simpa using h4) fun q hq => hclo j q hq h5
      rw [hunf] at h6
      cases h6
  have hread : Reads Cy x (lval l n ts (vs.take i) o) a.eval := fun y => by
   cases y with
   | tmp t =>
    simp only [lval]
    cases hix : dstIx l t n with
    | none =>
     have h1 : a.tmps[t]? = a0.tmps[t]? := I.other t (dstIx_none hix)
     have h2 := (ta1.mono I.fw.toEv).reads (.tmp t)
     have h3 : a.eval (.tmp t) = a0.eval (.tmp t) := by simp [Act.eval,h1]
     rw [h3]
     exact h2
    | some k =>
     obtain ⟨hkn,hkd⟩ := dstIx_some hix
     simp only
     split
     ·rename_i hdep
      have hmem : k ∈ depsOf l n o := by simpa using hdep
      have hwk : waits l.toArray i k = true := (List.all_eq_true.1 hwi.1) k hmem
      obtain ⟨v,hv1,hv2⟩ := I.val k t (hlm k hkn (hlw k hwk)) (hlw k hwk) hkd
      have hval1 : a.eval (.tmp t) = v := by simp [Act.eval,hv1]
      rw [hval1]
      by_cases hki : k < i
      ·have e2 : (vs.take i).getD k .any = vs.getD k .any := by simp [List.getD,List.getElem?_take_of_lt hki]
       rw [e2]
       exact hv2
      ·have e2 : (vs.take i).getD k .any = .any := by
        simp only [List.getD]
        rw [List.getElem?_eq_none (by rw [List.length_take];omega)]
        try rfl
       rw [e2]
       trivial
     ·trivial
   | const v => exact (rfl : v = v)
   | global g => exact (rfl : (Value.pointer (some ⟨g,0,none⟩)) = _)
   | func f => exact (rfl : (Value.func (.func f) #[] #[]) = _)
  have hwant : ∀ b,lwanted l (vs.take i) o = some b -> Region.wanted o (yielded l.toArray a.tmps) = b := fun b e => by
   unfold lwanted at e
   unfold Region.wanted
   split at e
   ·rename_i hg
    cases e
    simp [hg]
   ·rename_i j want hg
    rw [hg] at hwi
    simp only [Bool.and_eq_true,decide_eq_true_eq] at hwi
    obtain ⟨hjn,hjw⟩ := hwi.2
    simp only [hg]
    have key : ∀ t u,dstAt l j = some t -> (vs.take i)[j]? = some (.raw u) -> a.tmps[t]? = some u := fun t u h1 h2 => by
     obtain ⟨v,hv1,hv2⟩ := I.val j t (hlm j hjn (hlw j hjw)) (hlw j hjw) h1
     have h4 : vs.getD j .any = .raw u := by
      have hlt := (List.getElem?_eq_some_iff.1 h2).1
      rw [List.length_take] at hlt
      rw [List.getElem?_take_of_lt (by omega)] at h2
      simp [List.getD,h2]
     rw [h4] at hv2
     simp only [Rd] at hv2
     rw [hv1,hv2]
    split at e
    ·rename_i t b' h1 h2
     cases e
     unfold yielded
     rw [getElem?_bind_toArray,h1]
     simp only [Option.bind_some,key _ _ h1 h2]
     cases b' <;> cases want <;> rfl
    ·rename_i t u h1 h2
     cases e
     unfold yielded
     rw [getElem?_bind_toArray,h1]
     simp only [Option.bind_some,key _ _ h1 h2]
     try rfl
    ·cases e
  by_cases hlast : i = m
  ·subst hlast
   obtain ⟨⟨o2,ho2,hturn,hwt,hpp⟩,_⟩ := hpan hi
   rw [hoi] at ho2
   cases ho2
   have hvt : vs.take i = vs := List.take_of_length_le (by omega)
   rw [hvt] at hread hwant
   unfold wpOp
   simp only [ho]
   rw [hwant _ hwt,if_pos rfl]
   rw [← here (.inl hturn)] at hpp
   exact .inl (hpp.out Cy x a sp hread _ _ fun d h' v C' w' q f s' r => hpq d h' a C' w' v q ((f1.trans I.fw).trans f) s' r (I.defers.trans ta.defers))
  have hi' : i < m := by omega
  obtain ⟨o',d,e1,hvd,hst3⟩ := hspec i hi'
  rw [hoi] at e1
  cases e1
  have hvg : vs.getD i .any = d := by simp [List.getD,hvd]
  have next : ∀ (v : Value) (x' : World) (C' : Cx),Fw Cy x C' x' -> Rd C' x' d v -> (∃ p,p ≤ m ∧ (∀ j oj,j < m -> l[j]? = some oj -> isTurn oj = true -> ((listed.setIfInBounds i true).getD j false = true ↔ j < p)) ∧ Sim C' (hst.getD p []) x') -> ∃ Cx',LInvX C w.drew l n m vs hst a0 (listed.setIfInBounds i true) (a.put o.dst v) x' Cx' := fun v x' C' f r hp => by
   have hdo : dstAt l i = o.dst := by simp [dstAt,hoi]
   refine ⟨C',I.fw.trans f,(by rw [← I.defers];exact put_defers _ _ _),(put_size _ _ _).trans I.size,hp,fun t ht => (put_other _ _ (by rw [← hdo];exact ht i hi)).trans (I.other t ht),fun k t hkm hl hkd => ?_,fun k h1 h2 => ?_⟩
   ·have hkn : k < n := by omega
    by_cases hki : k = i
    ·subst hki
     rw [hdo] at hkd
     rw [hvg]
     refine ⟨v,?_,r⟩
     rw [hkd]
     exact put_same _ _ (by rw [I.size];exact Nat.lt_of_lt_of_le (hdlt k t hi (hdo.trans hkd)) hsz)
    ·rw [getD_set_ne false (fun e' => hki e'.symm)] at hl
     obtain ⟨u,hu1,hu2⟩ := I.val k t hkm hl hkd
     refine ⟨u,?_,hu2.mono f.toEv⟩
     rw [put_other _ _ fun e' => hki (hdst k i t hkn hi hkd (hdo.trans e'))]
     exact hu1
   ·rw [getD_set_ne false (fun e' => by omega)]
    exact I.off k h1 h2
  have setd : (listed.setIfInBounds i true).getD i false = true := by simp [hisz]
  have stay : isTurn o = false -> ∃ p,p ≤ m ∧ (∀ j oj,j < m -> l[j]? = some oj -> isTurn oj = true -> ((listed.setIfInBounds i true).getD j false = true ↔ j < p)) ∧ Sim Cy (hst.getD p []) x := fun hns => by
   refine ⟨p,hpn,fun j oj hj hoj hs => ?_,sp⟩
   have hji : j ≠ i := fun e' => by
    subst e'
    rw [hoi] at hoj
    cases hoj
    rw [hs] at hns
    cases hns
   rw [getD_set_ne false (fun e' => hji e'.symm)]
   exact hpw j oj hj hoj hs
  have goes : isTurn o = true -> ∀ C' x',Sim C' (hst.getD (i + 1) []) x' -> ∃ p,p ≤ m ∧ (∀ j oj,j < m -> l[j]? = some oj -> isTurn oj = true -> ((listed.setIfInBounds i true).getD j false = true ↔ j < p)) ∧ Sim C' (hst.getD p []) x' := fun his C' x' sx => by
   have hpi : p ≤ i := by
    have := hpw i o hi' hoi his
    rcases Nat.lt_or_ge i p with h1 | h1
    ·have := this.2 h1
     rw [hunf] at this
     cases this
    ·exact h1
   refine ⟨i + 1,by omega,fun j oj hj hoj hs => ?_,sx⟩
   by_cases hji : j = i
   ·subst hji
    exact ⟨fun _ => Nat.lt_succ_self _,fun _ => setd⟩
   ·rw [getD_set_ne false (fun e' => hji e'.symm),hpw j oj hj hoj hs]
    refine ⟨fun h1 => by omega,fun h1 => ?_⟩
    have h4 := ordS j oj hj hoj hs (fun e' => hji e'.symm) (.inl his)
    rw [if_neg (by omega)] at h4
    have h5 := hanc i hi j (by simpa using h4) hlw
    exact (hpw j oj hj hoj hs).1 h5
  unfold wpOp
  simp only [ho]
  rcases hst3 with ⟨hwt,his,htp⟩ | ⟨hwt,hns,hsop,_⟩ | ⟨hwt,hd0,hh2⟩
  ·rw [hwant _ hwt,if_pos rfl]
   rw [← here (.inl his)] at htp
   exact .inl (htp.out Cy x a sp hread _ _ fun v C' x' f s' r => next v x' C' f r (goes his C' x' s'))
  ·rw [hwant _ hwt,if_pos rfl]
   have hsop' : sop P (lval l n ts (vs.take i) o) o (hst.getD p []) = some d := by
    cases hld : isLoad o with
    | true =>
     cases hfr : free.contains i with
     | false => rw [here (.inr ⟨hld,hfr⟩)];exact hsop
     | true =>
      obtain ⟨o3,d3,q1,q2,q3⟩ := hfree i hi' hfr p hpn
      rw [hoi] at q1
      cases q1
      rw [hvd] at q2
      cases q2
      exact q3
    | false => rw [sop_still hld];exact hsop
   obtain ⟨v,k1,k2⟩ := sop_sound sp hread hsop'
   exact .inl (wp_of_value k1 (next v x Cy (Fw.refl _ _) k2 (stay hns)))
  ·rw [hwant _ hwt,if_neg (by simp)]
   subst hd0
   refine next undef x Cy (Fw.refl _ _) rfl ?_
   cases hso : isTurn o with
   | false => exact stay hso
   | true => exact goes hso Cy x (by rw [hh2,← here (.inl hso)];exact sp)
 ·
  rintro a x ⟨Cy,I⟩
  have hall : ∀ i,i < n -> (doneA n (l.toArray.size - n)).getD i false = true := fun i hi => by
   unfold doneA
   simp [List.getElem?_append_left,hi]
  have hmn' : n = m := by
   rcases Nat.lt_or_ge m n with h1 | h1
   ·have h2 := I.off m (Nat.le_refl _) h1
    rw [hall m h1] at h2
    cases h2
   ·omega
  subst hmn'
  obtain ⟨p,hpn,hpw,sp⟩ := I.at_
  have hend : hst.getD n [] = hst.getD p [] := hst_sameX hspec hpn (Nat.le_refl _) fun j oj h1 h2 h3 => by
   cases hs : isTurn oj with
   | false => rfl
   | true =>
    have := (hpw j oj h2 h3 hs).1 (hall j h2)
    omega
  have tfin : ∀ i,i ≤ n -> RdL Cy x (lputs l vs i ts) ((putV l.toArray (fun k => match dstAt l k with | some t => a.tmps.getD t undef | none => undef) a0 i).tmps.toList) := by
   intro i
   induction i with
   | zero => intro _;exact (ta1.mono I.fw.toEv).rd
   | succ i ih0 =>
    intro hi
    have ih := ih0 (by omega)
    simp only [lputs,putV]
    have e0 : (l.toArray[i]?).bind (·.dst) = dstAt l i := getElem?_bind_toArray l i
    rw [e0]
    cases hdi : dstAt l i with
    | none => exact ih
    | some t =>
     obtain ⟨v,hv1,hv2⟩ := I.val i t (by omega) (hall i (by omega)) hdi
     have : a.tmps.getD t undef = v := by simp [hv1]
     simp only [putD,Act.put,this]
     simpa using RdL.set hv2 ih t
  have ea : a = putV l.toArray (fun k => match dstAt l k with | some t => a.tmps.getD t undef | none => undef) a0 n := by
   refine Fr.done (ops := l.toArray) (n := n) (m := ts.length) (listed := doneA n (l.toArray.size - n)) ⟨I.size,I.defers,fun t ht => I.other t fun i hi e' => ht i hi ((getElem?_bind_toArray l i).trans e'),fun i t hi hl ht => ?_⟩ hd hsz hall
   have ht' := (getElem?_bind_toArray l i).symm.trans ht
   obtain ⟨v,hv1,hv2⟩ := I.val i t hi (hall i hi) ht'
   simp [ht',hv1]
  have tan : TA Cy x (lputs l vs n ts) a := ⟨by rw [ea];exact tfin n (Nat.le_refl _),I.defers.trans ta.defers⟩
  have hlist := hk rfl _ _ _ (f1.trans I.fw) (by rw [hend];exact sp) tan
  simpa using hlist
 ·unfold leftH
  have : ((List.range n).filter fun i => !(Array.replicate l.toArray.size false).getD i true) = List.range n := List.filter_eq_self.2 fun i hi => by
   have := List.mem_range.1 hi
   have : i < l.length := by simp at hnsz;omega
   simp [this]
  rw [this,List.length_range]
end
end Go.Proofs.Ytglefhgcfijiaaa.Pv

/- Parts of the proof: EpM, EpN, EpS. -/
import Derived.Test.YtglefhgcfijiaaaGAf
import Derived.Test.YtglefhgcfijiaaaGAh
import Derived.Test.YtglefhgcfijiaaaGAg
set_option linter.unusedSimpArgs false
set_option linter.unusedVariables false
set_option maxRecDepth 1000000
set_option maxHeartbeats 40000000
namespace Go.Proofs.Ytglefhgcfijiaaa
open Go.RowKit Pv
mutual
def nodesE : Ex7 -> Nat
 | .mk _ _ _ _ ts _ ks => 1 + nodesL ts + nodesEL ks
def nodesEL : List Ex7 -> Nat
 | [] => 0
 | e :: r => nodesE e + nodesEL r
end
mutual
def depthE : Ex7 -> Nat
 | .mk _ _ _ _ ts _ ks => max (depthL ts) (depthEL ks) + 1
def depthEL : List Ex7 -> Nat
 | [] => 0
 | e :: r => max (depthE e) (depthEL r)
end
mutual
def countE : Ex7 -> Nat
 | .mk _ _ _ _ _ _ ks => 1 + countEL ks
def countEL : List Ex7 -> Nat
 | [] => 0
 | e :: r => countE e + countEL r
end
theorem nodesE_pos (e : Ex7) : 0 < nodesE e := by
 obtain ⟨k,n,nm,hs,ts,ls,ks⟩ := e
 simp only [nodesE]
 omega
theorem countE_pos (e : Ex7) : 0 < countE e := by
 obtain ⟨k,n,nm,hs,ts,ls,ks⟩ := e
 simp only [countE]
 omega
theorem nodesEL_mem : ∀ {ks : List Ex7} {t : Ex7},t ∈ ks -> nodesE t ≤ nodesEL ks
 | x :: r,t,h => by
  simp only [nodesEL]
  rcases List.mem_cons.1 h with rfl | h
  ·omega
  ·have := nodesEL_mem h
   omega
theorem nodesEL_len : ∀ ks : List Ex7,ks.length ≤ nodesEL ks
 | [] => Nat.le_refl _
 | x :: r => by
  have := nodesEL_len r
  have := nodesE_pos x
  simp only [nodesEL,List.length_cons]
  omega
theorem countEL_len : ∀ ks : List Ex7,ks.length ≤ countEL ks
 | [] => Nat.le_refl _
 | x :: r => by
  have := countEL_len r
  have := countE_pos x
  simp only [countEL,List.length_cons]
  omega
theorem nodesEL_app : ∀ a b : List Ex7,nodesEL (a ++ b) = nodesEL a + nodesEL b
 | [],b => by simp [nodesEL]
 | t :: r,b => by
  simp only [List.cons_append,nodesEL,nodesEL_app r b]
  omega
theorem countEL_app : ∀ a b : List Ex7,countEL (a ++ b) = countEL a + countEL b
 | [],b => by simp [countEL]
 | t :: r,b => by
  simp only [List.cons_append,countEL,countEL_app r b]
  omega
theorem depthEL_app : ∀ a b : List Ex7,depthEL (a ++ b) = max (depthEL a) (depthEL b)
 | [],b => by simp [depthEL]
 | t :: r,b => by
  simp only [List.cons_append,depthEL,depthEL_app r b]
  omega
theorem ex_take {ks : List Ex7} {i : Nat} {t : Ex7} (h : ks[i]? = some t) : ks.take (i + 1) = ks.take i ++ [t] := by
 obtain ⟨h1,h2⟩ := List.getElem?_eq_some_iff.1 h
 rw [List.take_succ_eq_append_getElem h1,h2]
theorem ty_take {ks : List Ty5} {i : Nat} {t : Ty5} (h : ks[i]? = some t) : ks.take (i + 1) = ks.take i ++ [t] := by
 obtain ⟨h1,h2⟩ := List.getElem?_eq_some_iff.1 h
 rw [List.take_succ_eq_append_getElem h1,h2]
theorem nodesEL_step {ks : List Ex7} {i : Nat} {t : Ex7} (h : ks[i]? = some t) : nodesEL (ks.take (i + 1)) = nodesEL (ks.take i) + nodesE t := by
 rw [ex_take h,nodesEL_app]
 simp [nodesEL]
theorem countEL_step {ks : List Ex7} {i : Nat} {t : Ex7} (h : ks[i]? = some t) : countEL (ks.take (i + 1)) = countEL (ks.take i) + countE t := by
 rw [ex_take h,countEL_app]
 simp [countEL]
theorem depthEL_step {ks : List Ex7} {i : Nat} {t : Ex7} (h : ks[i]? = some t) : depthEL (ks.take (i + 1)) = max (depthEL (ks.take i)) (depthE t) := by
 rw [ex_take h,depthEL_app]
 simp [depthEL]
theorem nodesL_step14 {ks : List Ty5} {i : Nat} {t : Ty5} (h : ks[i]? = some t) : nodesL (ks.take (i + 1)) = nodesL (ks.take i) + nodesT t := by
 rw [ty_take h]
 have app : ∀ a b : List Ty5,nodesL (a ++ b) = nodesL a + nodesL b := fun a b => by
  induction a with
  | nil => simp [nodesL]
  | cons x r ih =>
   simp only [List.cons_append,nodesL,ih]
   omega
 rw [app]
 simp [nodesL]
theorem depthL_step14 {ks : List Ty5} {i : Nat} {t : Ty5} (h : ks[i]? = some t) : depthL (ks.take (i + 1)) = max (depthL (ks.take i)) (depthT t) := by
 rw [ty_take h,depthL_app]
 simp [depthL]
theorem nodesEL_part (ks : List Ex7) (i : Nat) : nodesEL (ks.take i) ≤ nodesEL ks := by
 have := nodesEL_app (ks.take i) (ks.drop i)
 rw [List.take_append_drop] at this
 omega
theorem countEL_part (ks : List Ex7) (i : Nat) : countEL (ks.take i) ≤ countEL ks := by
 have := countEL_app (ks.take i) (ks.drop i)
 rw [List.take_append_drop] at this
 omega
mutual
theorem count_nodes : ∀ e : Ex7,countE e ≤ nodesE e
 | .mk k n nm hs ts ls ks => by
  have := count_nodesL ks
  simp only [countE,nodesE]
  omega
theorem count_nodesL : ∀ ks : List Ex7,countEL ks ≤ nodesEL ks
 | [] => Nat.le_refl _
 | e :: r => by
  have := count_nodes e
  have := count_nodesL r
  simp only [countEL,nodesEL]
  omega
end
mutual
theorem depth_nodesT : ∀ t : Ty5,depthT t ≤ nodesT t
 | .mk k n nm ls ks => by
  have := depth_nodesL ks
  simp only [depthT,nodesT]
  omega
theorem depth_nodesL : ∀ ks : List Ty5,depthL ks ≤ nodesL ks
 | [] => Nat.le_refl _
 | t :: r => by
  have := depth_nodesT t
  have := depth_nodesL r
  simp only [depthL,nodesL]
  omega
end
mutual
theorem depth_nodesE : ∀ e : Ex7,depthE e ≤ nodesE e
 | .mk k n nm hs ts ls ks => by
  have := depth_nodesL ts
  have := depth_nodesEL ks
  simp only [depthE,nodesE]
  omega
theorem depth_nodesEL : ∀ ks : List Ex7,depthEL ks ≤ nodesEL ks
 | [] => Nat.le_refl _
 | e :: r => by
  have := depth_nodesE e
  have := depth_nodesEL r
  simp only [depthEL,nodesEL]
  omega
end
theorem eqS_eq {a b : ByteArray} (h : eqS a b = true) : a = b := eqS_iff.1 h
mutual
def sameE : Ex7 -> Ex7 -> Bool
 | .mk k n nm hs ts ls ks,.mk k' n' nm' hs' ts' ls' ks' => k == k' && (n == n' && (eqS nm nm' && (hs == hs' && (sameL ts ts' && (eqL ls ls' && sameEL ks ks')))))
def sameEL : List Ex7 -> List Ex7 -> Bool
 | [],[] => true
 | t :: r,t' :: r' => sameE t t' && sameEL r r'
 | [],_ :: _ => false
 | _ :: _,[] => false
end
theorem sameEL_len : ∀ {a b : List Ex7},sameEL a b = true -> a.length = b.length
 | [],[],_ => rfl
 | t :: r,u :: q,h => by
  simp only [sameEL,Bool.and_eq_true] at h
  have := sameEL_len h.2
  simp [this]
 | [],_ :: _,h => by simp [sameEL] at h
 | _ :: _,[],h => by simp [sameEL] at h
theorem sameEL_at : ∀ {a b : List Ex7},a.length = b.length -> (sameEL a b = true ↔ ∀ (j : Nat) (t u : Ex7),a[j]? = some t -> b[j]? = some u -> sameE t u = true)
 | [],[],_ => ⟨fun _ j t u h => by simp at h,fun _ => rfl⟩
 | t :: r,u :: q,hl => by
  simp only [sameEL,Bool.and_eq_true]
  rw [sameEL_at (a := r) (b := q) (by simpa using hl)]
  constructor
  ·rintro ⟨h1,h2⟩ j x y hx hy
   cases j with
   | zero => simp at hx hy;subst hx hy;exact h1
   | succ j => exact h2 j x y (by simpa using hx) (by simpa using hy)
  ·intro h
   exact ⟨h 0 t u rfl rfl,fun j x y hx hy => h (j + 1) x y (by simpa using hx) (by simpa using hy)⟩
 | [],_ :: _,h => by simp at h
 | _ :: _,[],h => by simp at h
theorem sameL_len14 : ∀ {a b : List Ty5},sameL a b = true -> a.length = b.length
 | [],[],_ => rfl
 | t :: r,u :: q,h => by
  simp only [sameL,Bool.and_eq_true] at h
  have := sameL_len14 h.2
  simp [this]
 | [],_ :: _,h => by simp [sameL] at h
 | _ :: _,[],h => by simp [sameL] at h
theorem sameL_at : ∀ {a b : List Ty5},a.length = b.length -> (sameL a b = true ↔ ∀ (j : Nat) (t u : Ty5),a[j]? = some t -> b[j]? = some u -> sameT t u = true)
 | [],[],_ => ⟨fun _ j t u h => by simp at h,fun _ => rfl⟩
 | t :: r,u :: q,hl => by
  simp only [sameL,Bool.and_eq_true]
  rw [sameL_at (a := r) (b := q) (by simpa using hl)]
  constructor
  ·rintro ⟨h1,h2⟩ j x y hx hy
   cases j with
   | zero => simp at hx hy;subst hx hy;exact h1
   | succ j => exact h2 j x y (by simpa using hx) (by simpa using hy)
  ·intro h
   exact ⟨h 0 t u rfl rfl,fun j x y hx hy => h (j + 1) x y (by simpa using hx) (by simpa using hy)⟩
 | [],_ :: _,h => by simp at h
 | _ :: _,[],h => by simp at h
theorem sameL_refl14 : ∀ ts : List Ty5,sameL ts ts = true
 | [] => rfl
 | t :: r => by simp [sameL,same_refl t,sameL_refl14 r]
mutual
theorem sameE_refl : ∀ e : Ex7,sameE e e = true
 | .mk k n nm hs ts ls ks => by
  have h1 := sameEL_refl ks
  have h2 := sameL_refl14 ts
  have h3 := eqL_refl ls
  simp [sameE,h1,h2,h3,eqS]
theorem sameEL_refl : ∀ ks : List Ex7,sameEL ks ks = true
 | [] => rfl
 | t :: r => by simp [sameEL,sameE_refl t,sameEL_refl r]
end
mutual
def atE : Ex7 -> Nat -> Option Ex7
 | _,0 => none
 | e,1 => some e
 | .mk _ _ _ _ _ _ ks,j + 2 => atEL ks j
def atEL : List Ex7 -> Nat -> Option Ex7
 | [],_ => none
 | t :: r,j => if j < countE t then atE t (j + 1) else atEL r (j - countE t)
end
theorem atEL_step {ks : List Ex7} {i j : Nat} {t : Ex7} (h : ks[i]? = some t) : atEL (ks.drop i) j = if j < countE t then atE t (j + 1) else atEL (ks.drop (i + 1)) (j - countE t) := by
 obtain ⟨h1,h2⟩ := List.getElem?_eq_some_iff.1 h
 rw [List.drop_eq_getElem_cons h1,h2]
 simp only [atEL]
def keepF (k : Int) (nm : ByteArray) (i : Nat) (l : List ByteArray) : List ByteArray := if k = 7 ∨ (k = 5 ∧ 0 < i) then l.filter (fun s => !eqS s nm) else l
mutual
def freeE : Ex7 -> List ByteArray
 | .mk k _ nm _ _ _ ks => freeEL k nm 0 (if k = 4 then [nm] else []) ks
def freeEL (k : Int) (nm : ByteArray) (i : Nat) (a : List ByteArray) : List Ex7 -> List ByteArray
 | [] => a
 | t :: r => freeEL k nm (i + 1) ((keepF k nm i (freeE t)).foldl putL a) r
end
mutual
def callsE : Ex7 -> List ByteArray
 | .mk k _ nm _ _ _ ks => callsEL (if k = 13 then [nm] else []) ks
def callsEL (a : List ByteArray) : List Ex7 -> List ByteArray
 | [] => a
 | t :: r => callsEL ((callsE t).foldl putL a) r
end
theorem callsEL_app : ∀ (a : List ByteArray) (x y : List Ex7),callsEL a (x ++ y) = callsEL (callsEL a x) y
 | a,[],y => by simp [callsEL]
 | a,t :: r,y => by
  simp only [List.cons_append,callsEL]
  exact callsEL_app _ r y
theorem callsEL_step {a : List ByteArray} {ks : List Ex7} {i : Nat} {t : Ex7} (h : ks[i]? = some t) : callsEL a (ks.take (i + 1)) = (callsE t).foldl putL (callsEL a (ks.take i)) := by
 rw [ex_take h,callsEL_app]
 simp [callsEL]
theorem freeEL_app : ∀ (k : Int) (nm : ByteArray) (i : Nat) (a : List ByteArray) (x y : List Ex7),freeEL k nm i a (x ++ y) = freeEL k nm (i + x.length) (freeEL k nm i a x) y
 | k,nm,i,a,[],y => by simp [freeEL]
 | k,nm,i,a,t :: r,y => by
  simp only [List.cons_append,freeEL,List.length_cons]
  rw [freeEL_app k nm (i + 1) _ r y]
  congr 1
  omega
theorem freeEL_step {k : Int} {nm : ByteArray} {a : List ByteArray} {ks : List Ex7} {i : Nat} {t : Ex7} (h : ks[i]? = some t) : freeEL k nm 0 a (ks.take (i + 1)) = (keepF k nm i (freeE t)).foldl putL (freeEL k nm 0 a (ks.take i)) := by
 have hl := (List.getElem?_eq_some_iff.1 h).1
 rw [ex_take h,freeEL_app]
 simp only [freeEL,List.length_take,Nat.zero_add]
 rw [show min i ks.length = i by omega]
theorem keepF_len (k : Int) (nm : ByteArray) (i : Nat) (l : List ByteArray) : (keepF k nm i l).length ≤ l.length := by
 unfold keepF
 split
 ·exact List.length_filter_le _ _
 ·exact Nat.le_refl _
mutual
theorem freeE_len : ∀ e : Ex7,(freeE e).length ≤ countE e
 | .mk k n nm hs ts ls ks => by
  have := freeEL_len k nm ks 0 (if k = 4 then [nm] else [])
  have : (if k = 4 then [nm] else ([] : List ByteArray)).length ≤ 1 := by split <;> simp
  simp only [freeE,countE]
  omega
theorem freeEL_len (k : Int) (nm : ByteArray) : ∀ (ks : List Ex7) (i : Nat) (a : List ByteArray),(freeEL k nm i a ks).length ≤ a.length + countEL ks
 | [],i,a => by simp [freeEL]
 | t :: r,i,a => by
  have h1 := freeEL_len k nm r (i + 1) ((keepF k nm i (freeE t)).foldl putL a)
  have h2 := foldPut_len (keepF k nm i (freeE t)) a
  have h3 := keepF_len k nm i (freeE t)
  have h4 := freeE_len t
  simp only [freeEL,countEL]
  omega
end
mutual
theorem callsE_len : ∀ e : Ex7,(callsE e).length ≤ countE e
 | .mk k n nm hs ts ls ks => by
  have := callsEL_len ks (if k = 13 then [nm] else [])
  have : (if k = 13 then [nm] else ([] : List ByteArray)).length ≤ 1 := by split <;> simp
  simp only [callsE,countE]
  omega
theorem callsEL_len : ∀ (ks : List Ex7) (a : List ByteArray),(callsEL a ks).length ≤ a.length + countEL ks
 | [],a => by simp [callsEL]
 | t :: r,a => by
  have h1 := callsEL_len r ((callsE t).foldl putL a)
  have h2 := foldPut_len (callsE t) a
  have h4 := callsE_len t
  simp only [callsEL,countEL]
  omega
end
theorem max_two {ts : Array TypeId} {ty : TypeId} {cs : Array Bool} {a b : Int} {K : D -> Prop} (hk : ∀ r,r = max a b -> K (.raw (.int .i64 r))) : BuiltK TT .max ts ty cs [.int .i64 a,.int .i64 b] K := by
 refine ⟨.int .i64 (if b > a then b else a),?_,hk _ ?_⟩
 ·rfl
 ·split <;> omega
theorem depthq_cp (a : Ty5) (ha : okT a) (hn : nodesT a ≤ 1000000) : CP (TT ()) 37 [tyD a] (· = .raw (.int .i64 (depthT a))) :=
 cp_raw (callable_at Try.func37 (by kernel_rfl) rfl) fun S w args r => by
  obtain ⟨v,rfl,h⟩ := rdL_one r
  obtain ⟨v0,v1,v2,v3,v4,rfl,hT⟩ := ty_in a ha h
  exact rdepth_any _ a _ _ _ _ _ w (Nat.le_refl _) hn hT
theorem rnodesE_run (k n : Int) (nm : ByteArray) (hs : Bool) (ts : List Ty5) (ls : List ByteArray) (ks : List Ex7) (ho : okT.okL ts) (hn : 1 + nodesL ts + nodesEL ks ≤ 1000000)
  (hc : ∀ t ∈ ks,CP (TT ()) 13 [exD t] (· = .raw (.int .i64 (nodesE t)))) (Q : D -> H -> Prop) (hQ : ∀ h',Q (.raw (.int .i64 (nodesE (.mk k n nm hs ts ls ks)))) h') :
  wfun TT 13 [exD (.mk k n nm hs ts ls ks)] [] Q := by
 have hTl := tys_len ts
 have hTi := tys_idb ts
 have hTat := fun i => tys_at (ks := ts) (i := i)
 have hKl := exs_len ks
 have hKi := exs_idb ks
 have hKat := fun i => exs_at (ks := ks) (i := i)
 have hLi := strs_idb ls
 have hl1 := nodesL_len ts
 have hl2 := nodesEL_len ks
 have hQ : ∀ z : Int,0 ≤ z -> z.toNat = nodesE (.mk k n nm hs ts ls ks) -> ∀ h',Q (.raw (.int .i64 z)) h' := fun z h0 hz h' => by
  have := hQ h'
  rwa [show ((nodesE (.mk k n nm hs ts ls ks) : Nat) : Int) = z by omega] at this
 have hc : ∀ t ∈ ks,∀ M : Int,0 ≤ M -> M.toNat = nodesE t -> CP (TT ()) 13 [exD t] (· = .raw (.int .i64 M)) := fun t ht M h0 hM => by
  obtain rfl : M = ((nodesE t : Nat) : Int) := by omega
  exact hc t ht
 have hfin : nodesE (.mk k n nm hs ts ls ks) = 1 + nodesL ts + nodesEL ks := by simp only [nodesE]
 rw [hfin] at hQ
 clear hfin
 simp only [exD]
 generalize ls.map strD = LS at hLi ⊢
 generalize tysD ts = TS at hTl hTi hTat ⊢
 generalize exsD ks = KS at hKl hKi hKat ⊢
 cbv
 (repeat'((first|(apply zS;kernel_rfl)|(apply zD;decide +kernel)|(apply zE;decide +kernel)|(apply zF;decide +kernel)|(apply zL;decide +kernel)|(apply zM;decide +kernel)|(apply zN;intros)|(apply zO;intros)|(apply zT;omega)|(apply zU;omega)|(apply zP;omega;intros)|(apply zQ;omega;intros)|apply zR);cbv))
 refine LoopK.put (X := Int × Int) (fun x => [(3,.raw (.int .i64 x.2)),(4,.raw (.int .i64 x.1))]) (fun _ => []) (fun x => ts.length - x.1.toNat)
  (fun x => 0 ≤ x.1 ∧ x.1.toNat ≤ ts.length ∧ 0 ≤ x.2 ∧ x.2.toNat = 1 + nodesL (ts.take x.1.toNat)) (0,1) ⟨by simp,by simp,by simp,by simp [nodesL]⟩ rfl rfl ?_
 rintro ⟨i,z⟩ N ⟨h0,hi,hz0,hz⟩ hN
 simp only at h0 hi hz0 hz hN ⊢
 have hzb : z ≤ 1000000 := by
  have := nodesL_le ts i.toNat
  have := depth_nodesL (ts.take i.toNat)
  omega
 cbv
 (repeat'((first|(apply zS;kernel_rfl)|(apply zD;decide +kernel)|(apply zE;decide +kernel)|(apply zF;decide +kernel)|(apply zL;decide +kernel)|(apply zM;decide +kernel)|(apply zN;intros)|(apply zO;intros)|(apply zT;omega)|(apply zU;omega)|(apply zP;omega;intros)|(apply zQ;omega;intros)|apply zR);cbv))
 refine BinK.lss ?_ ?_ <;> intro hlt <;> cbv <;> (repeat'((first|(apply zS;kernel_rfl)|(apply zD;decide +kernel)|(apply zE;decide +kernel)|(apply zF;decide +kernel)|(apply zL;decide +kernel)|(apply zM;decide +kernel)|(apply zN;intros)|(apply zO;intros)|(apply zT;omega)|(apply zU;omega)|(apply zP;omega;intros)|(apply zQ;omega;intros)|apply zR);cbv))
 ·obtain ⟨t,ht,hT⟩ := hTat i.toNat (by omega)
  have hmem := List.mem_of_getElem? ht
  have hnt := nodesL_mem hmem
  have hdt := depth_nodesT t
  have cN := nodesq_cp t (okL_get ho t hmem) (by omega)
  have hpt := ty_pure t
  have hst := nodesL_step14 ht
  obtain ⟨M,hM1,hM2,hM3,hM4⟩ : ∃ M : Int,((nodesT t : Nat) : Int) = M ∧ 0 ≤ M ∧ M ≤ 1000000 ∧ M.toNat = nodesT t := ⟨_,rfl,by omega,by omega,by omega⟩
  rw [hM1] at cN
  have hgo : ∀ s r : Int,s = z + M -> r = i + 1 -> 0 ≤ s ∧ s.toNat = 1 + nodesL (ts.take r.toNat) := fun s r hs hr => by
   rw [show r.toNat = i.toNat + 1 by omega,hst]
   omega
  obtain ⟨k0,n0,m0,L0,K0,f0,_,_⟩ := c4_node t
  rw [f0] at cN hpt hT
  clear f0 hst hM1 hM4 hc hQ hz hnt hdt
  refine IdxK.intro h0 hT ?_
  cbv
  (repeat'((first|(apply zS;kernel_rfl)|(apply zD;decide +kernel)|(apply zE;decide +kernel)|(apply zF;decide +kernel)|(apply zL;decide +kernel)|(apply zM;decide +kernel)|(apply zN;intros)|(apply zO;intros)|(apply zT;omega)|(apply zU;omega)|(apply zP;omega;intros)|(apply zQ;omega;intros)|apply zR);cbv))
  refine .one cN (cons_pure hpt rfl) rfl ?_
  cbv
  (repeat'((first|(apply zS;kernel_rfl)|(apply zD;decide +kernel)|(apply zE;decide +kernel)|(apply zF;decide +kernel)|(apply zL;decide +kernel)|(apply zM;decide +kernel)|(apply zN;intros)|(apply zO;intros)|(apply zT;omega)|(apply zU;omega)|(apply zP;omega;intros)|(apply zQ;omega;intros)|apply zR);cbv))
  rename_i s hs2 r hr
  have hgo := hgo s r hs2 hr
  exact RoundK.next (r,s) ⟨by omega,by omega,hgo.1,hgo.2⟩ (by omega) rfl rfl
 have hallT : ts.take i.toNat = ts := List.take_of_length_le (by omega)
 rw [hallT] at hz
 clear hallT hTl hTi hTat hN
 obtain ⟨z1,hz1,hz1'⟩ : ∃ z1 : Int,z1 = z ∧ 0 ≤ z1 := ⟨z,rfl,hz0⟩
 rw [← hz1]
 rw [← hz1] at hz
 refine LoopK.put (X := Int × Int) (fun x => [(3,.raw (.int .i64 x.2)),(5,.raw (.int .i64 x.1))]) (fun _ => []) (fun x => ks.length - x.1.toNat)
  (fun x => 0 ≤ x.1 ∧ x.1.toNat ≤ ks.length ∧ 0 ≤ x.2 ∧ x.2.toNat = 1 + nodesL ts + nodesEL (ks.take x.1.toNat)) (0,z1) ⟨by simp,by simp,hz1',by simpa [nodesEL] using hz⟩ rfl rfl ?_
 rintro ⟨i,z⟩ N ⟨h0,hi,hz0,hz⟩ hN
 simp only at h0 hi hz0 hz hN ⊢
 have hzb : z ≤ 1000000 := by
  have := nodesEL_part ks i.toNat
  omega
 cbv
 (repeat'((first|(apply zS;kernel_rfl)|(apply zD;decide +kernel)|(apply zE;decide +kernel)|(apply zF;decide +kernel)|(apply zL;decide +kernel)|(apply zM;decide +kernel)|(apply zN;intros)|(apply zO;intros)|(apply zT;omega)|(apply zU;omega)|(apply zP;omega;intros)|(apply zQ;omega;intros)|apply zR);cbv))
 refine BinK.lss ?_ ?_ <;> intro hlt <;> cbv <;> (repeat'((first|(apply zS;kernel_rfl)|(apply zD;decide +kernel)|(apply zE;decide +kernel)|(apply zF;decide +kernel)|(apply zL;decide +kernel)|(apply zM;decide +kernel)|(apply zN;intros)|(apply zO;intros)|(apply zT;omega)|(apply zU;omega)|(apply zP;omega;intros)|(apply zQ;omega;intros)|apply zR);cbv))
 ·obtain ⟨t,ht,hK⟩ := hKat i.toNat (by omega)
  have hmem := List.mem_of_getElem? ht
  have hnt := nodesEL_mem hmem
  have hxt := nodesE_pos t
  have hpt := ex_pure t
  have hst := nodesEL_step ht
  obtain ⟨M,hM2,hM3,hM4⟩ : ∃ M : Int,0 ≤ M ∧ M ≤ 1000000 ∧ M.toNat = nodesE t := ⟨((nodesE t : Nat) : Int),by omega,by omega,by omega⟩
  have cN := hc t hmem M hM2 hM4
  have hgo : ∀ s r : Int,s = z + M -> r = i + 1 -> 0 ≤ s ∧ s.toNat = 1 + nodesL ts + nodesEL (ks.take r.toNat) := fun s r hs hr => by
   rw [show r.toNat = i.toNat + 1 by omega,hst]
   omega
  obtain ⟨k0,n0,m0,b0,T0,L0,K0,f0,_,_,_⟩ := ex_node t
  rw [f0] at cN hpt hK
  clear f0 hst hM4 hc hQ hz hnt hxt
  refine IdxK.intro h0 hK ?_
  cbv
  (repeat'((first|(apply zS;kernel_rfl)|(apply zD;decide +kernel)|(apply zE;decide +kernel)|(apply zF;decide +kernel)|(apply zL;decide +kernel)|(apply zM;decide +kernel)|(apply zN;intros)|(apply zO;intros)|(apply zT;omega)|(apply zU;omega)|(apply zP;omega;intros)|(apply zQ;omega;intros)|apply zR);cbv))
  refine .one cN (cons_pure hpt rfl) rfl ?_
  cbv
  (repeat'((first|(apply zS;kernel_rfl)|(apply zD;decide +kernel)|(apply zE;decide +kernel)|(apply zF;decide +kernel)|(apply zL;decide +kernel)|(apply zM;decide +kernel)|(apply zN;intros)|(apply zO;intros)|(apply zT;omega)|(apply zU;omega)|(apply zP;omega;intros)|(apply zQ;omega;intros)|apply zR);cbv))
  rename_i s hs2 r hr
  have hgo := hgo s r hs2 hr
  exact RoundK.next (r,s) ⟨by omega,by omega,hgo.1,hgo.2⟩ (by omega) rfl rfl
 ·have hall : ks.take i.toNat = ks := List.take_of_length_le (by omega)
  rw [hall] at hz
  exact ⟨hQ z hz0 hz _⟩
theorem rnodesE_cp : ∀ e : Ex7,okE e -> nodesE e ≤ 1000000 -> CP (TT ()) 13 [exD e] (· = .raw (.int .i64 (nodesE e))) := by
 refine ex_ind fun k n nm hs ts ls ks ih ho hn => c4_run fun Q hQ => ?_
 simp only [nodesE] at hn
 refine rnodesE_run k n nm hs ts ls ks ho.2.1 (by omega) (fun t ht => ih t ht (okEL_get ho.2.2.2 t ht) ?_) Q hQ
 have := nodesEL_mem ht
 omega
theorem rcountE_run (k n : Int) (nm : ByteArray) (hs : Bool) (ts : List Ty5) (ls : List ByteArray) (ks : List Ex7) (ho : okT.okL ts) (hn : 1 + nodesL ts + nodesEL ks ≤ 1000000)
  (hc : ∀ t ∈ ks,CP (TT ()) 17 [exD t] (· = .raw (.int .i64 (countE t)))) (Q : D -> H -> Prop) (hQ : ∀ h',Q (.raw (.int .i64 (countE (.mk k n nm hs ts ls ks)))) h') :
  wfun TT 17 [exD (.mk k n nm hs ts ls ks)] [] Q := by
 have hTl := tys_len ts
 have hTi := tys_idb ts
 have hTat := fun i => tys_at (ks := ts) (i := i)
 have hKl := exs_len ks
 have hKi := exs_idb ks
 have hKat := fun i => exs_at (ks := ks) (i := i)
 have hLi := strs_idb ls
 have hl1 := nodesL_len ts
 have hl2 := nodesEL_len ks
 have hl3 := count_nodesL ks
 have hQ : ∀ z : Int,0 ≤ z -> z.toNat = countE (.mk k n nm hs ts ls ks) -> ∀ h',Q (.raw (.int .i64 z)) h' := fun z h0 hz h' => by
  have := hQ h'
  rwa [show ((countE (.mk k n nm hs ts ls ks) : Nat) : Int) = z by omega] at this
 have hc : ∀ t ∈ ks,∀ M : Int,0 ≤ M -> M.toNat = countE t -> CP (TT ()) 17 [exD t] (· = .raw (.int .i64 M)) := fun t ht M h0 hM => by
  obtain rfl : M = ((countE t : Nat) : Int) := by omega
  exact hc t ht
 have hfin : countE (.mk k n nm hs ts ls ks) = 1 + countEL ks := by simp only [countE]
 rw [hfin] at hQ
 clear hfin
 simp only [exD]
 generalize ls.map strD = LS at hLi ⊢
 generalize tysD ts = TS at hTl hTi hTat ⊢
 generalize exsD ks = KS at hKl hKi hKat ⊢
 cbv
 (repeat'((first|(apply zS;kernel_rfl)|(apply zD;decide +kernel)|(apply zE;decide +kernel)|(apply zF;decide +kernel)|(apply zL;decide +kernel)|(apply zM;decide +kernel)|(apply zN;intros)|(apply zO;intros)|(apply zT;omega)|(apply zU;omega)|(apply zP;omega;intros)|(apply zQ;omega;intros)|apply zR);cbv))
 refine LoopK.put (X := Int × Int) (fun x => [(3,.raw (.int .i64 x.2)),(4,.raw (.int .i64 x.1))]) (fun _ => []) (fun x => ks.length - x.1.toNat)
  (fun x => 0 ≤ x.1 ∧ x.1.toNat ≤ ks.length ∧ 0 ≤ x.2 ∧ x.2.toNat = 1 + countEL (ks.take x.1.toNat)) (0,1) ⟨by simp,by simp,by simp,by simp [countEL]⟩ rfl rfl ?_
 rintro ⟨i,z⟩ N ⟨h0,hi,hz0,hz⟩ hN
 simp only at h0 hi hz0 hz hN ⊢
 have hzb : z ≤ 1000000 := by
  have := countEL_part ks i.toNat
  omega
 cbv
 (repeat'((first|(apply zS;kernel_rfl)|(apply zD;decide +kernel)|(apply zE;decide +kernel)|(apply zF;decide +kernel)|(apply zL;decide +kernel)|(apply zM;decide +kernel)|(apply zN;intros)|(apply zO;intros)|(apply zT;omega)|(apply zU;omega)|(apply zP;omega;intros)|(apply zQ;omega;intros)|apply zR);cbv))
 refine BinK.lss ?_ ?_ <;> intro hlt <;> cbv <;> (repeat'((first|(apply zS;kernel_rfl)|(apply zD;decide +kernel)|(apply zE;decide +kernel)|(apply zF;decide +kernel)|(apply zL;decide +kernel)|(apply zM;decide +kernel)|(apply zN;intros)|(apply zO;intros)|(apply zT;omega)|(apply zU;omega)|(apply zP;omega;intros)|(apply zQ;omega;intros)|apply zR);cbv))
 ·obtain ⟨t,ht,hK⟩ := hKat i.toNat (by omega)
  have hmem := List.mem_of_getElem? ht
  have hnt := nodesEL_mem hmem
  have hxt := count_nodes t
  have hpt := ex_pure t
  have hst := countEL_step ht
  obtain ⟨M,hM2,hM3,hM4⟩ : ∃ M : Int,0 ≤ M ∧ M ≤ 1000000 ∧ M.toNat = countE t := ⟨((countE t : Nat) : Int),by omega,by omega,by omega⟩
  have cN := hc t hmem M hM2 hM4
  have hgo : ∀ s r : Int,s = z + M -> r = i + 1 -> 0 ≤ s ∧ s.toNat = 1 + countEL (ks.take r.toNat) := fun s r hs hr => by
   rw [show r.toNat = i.toNat + 1 by omega,hst]
   omega
  obtain ⟨k0,n0,m0,b0,T0,L0,K0,f0,_,_,_⟩ := ex_node t
  rw [f0] at cN hpt hK
  clear f0 hst hM4 hc hQ hz hnt hxt
  refine IdxK.intro h0 hK ?_
  cbv
  (repeat'((first|(apply zS;kernel_rfl)|(apply zD;decide +kernel)|(apply zE;decide +kernel)|(apply zF;decide +kernel)|(apply zL;decide +kernel)|(apply zM;decide +kernel)|(apply zN;intros)|(apply zO;intros)|(apply zT;omega)|(apply zU;omega)|(apply zP;omega;intros)|(apply zQ;omega;intros)|apply zR);cbv))
  refine .one cN (cons_pure hpt rfl) rfl ?_
  cbv
  (repeat'((first|(apply zS;kernel_rfl)|(apply zD;decide +kernel)|(apply zE;decide +kernel)|(apply zF;decide +kernel)|(apply zL;decide +kernel)|(apply zM;decide +kernel)|(apply zN;intros)|(apply zO;intros)|(apply zT;omega)|(apply zU;omega)|(apply zP;omega;intros)|(apply zQ;omega;intros)|apply zR);cbv))
  rename_i s hs2 r hr
  have hgo := hgo s r hs2 hr
  exact RoundK.next (r,s) ⟨by omega,by omega,hgo.1,hgo.2⟩ (by omega) rfl rfl
 ·have hall : ks.take i.toNat = ks := List.take_of_length_le (by omega)
  rw [hall] at hz
  exact ⟨hQ z hz0 hz _⟩
theorem rcountE_cp : ∀ e : Ex7,okE e -> nodesE e ≤ 1000000 -> CP (TT ()) 17 [exD e] (· = .raw (.int .i64 (countE e))) := by
 refine ex_ind fun k n nm hs ts ls ks ih ho hn => c4_run fun Q hQ => ?_
 simp only [nodesE] at hn
 refine rcountE_run k n nm hs ts ls ks ho.2.1 (by omega) (fun t ht => ih t ht (okEL_get ho.2.2.2 t ht) ?_) Q hQ
 have := nodesEL_mem ht
 omega
theorem rdepthE_run (k n : Int) (nm : ByteArray) (hs : Bool) (ts : List Ty5) (ls : List ByteArray) (ks : List Ex7) (ho : okT.okL ts) (hn : 1 + nodesL ts + nodesEL ks ≤ 1000000)
  (hc : ∀ t ∈ ks,CP (TT ()) 15 [exD t] (· = .raw (.int .i64 (depthE t)))) (Q : D -> H -> Prop) (hQ : ∀ h',Q (.raw (.int .i64 (depthE (.mk k n nm hs ts ls ks)))) h') :
  wfun TT 15 [exD (.mk k n nm hs ts ls ks)] [] Q := by
 have hTl := tys_len ts
 have hTi := tys_idb ts
 have hTat := fun i => tys_at (ks := ts) (i := i)
 have hKl := exs_len ks
 have hKi := exs_idb ks
 have hKat := fun i => exs_at (ks := ks) (i := i)
 have hLi := strs_idb ls
 have hl1 := nodesL_len ts
 have hl2 := nodesEL_len ks
 have hl3 := depth_nodesL ts
 have hQ : ∀ z : Int,0 ≤ z -> z.toNat = depthE (.mk k n nm hs ts ls ks) -> ∀ h',Q (.raw (.int .i64 z)) h' := fun z h0 hz h' => by
  have := hQ h'
  rwa [show ((depthE (.mk k n nm hs ts ls ks) : Nat) : Int) = z by omega] at this
 have hc : ∀ t ∈ ks,∀ M : Int,0 ≤ M -> M.toNat = depthE t -> CP (TT ()) 15 [exD t] (· = .raw (.int .i64 M)) := fun t ht M h0 hM => by
  obtain rfl : M = ((depthE t : Nat) : Int) := by omega
  exact hc t ht
 have hfin : depthE (.mk k n nm hs ts ls ks) = max (depthL ts) (depthEL ks) + 1 := by simp only [depthE]
 rw [hfin] at hQ
 clear hfin
 simp only [exD]
 generalize ls.map strD = LS at hLi ⊢
 generalize tysD ts = TS at hTl hTi hTat ⊢
 generalize exsD ks = KS at hKl hKi hKat ⊢
 cbv
 (repeat'((first|(apply zS;kernel_rfl)|(apply zD;decide +kernel)|(apply zE;decide +kernel)|(apply zF;decide +kernel)|(apply zL;decide +kernel)|(apply zM;decide +kernel)|(apply zN;intros)|(apply zO;intros)|(apply zT;omega)|(apply zU;omega)|(apply zP;omega;intros)|(apply zQ;omega;intros)|apply zR);cbv))
 refine LoopK.put (X := Int × Int) (fun x => [(3,.raw (.int .i64 x.2)),(4,.raw (.int .i64 x.1))]) (fun _ => []) (fun x => ts.length - x.1.toNat)
  (fun x => 0 ≤ x.1 ∧ x.1.toNat ≤ ts.length ∧ 0 ≤ x.2 ∧ x.2.toNat = depthL (ts.take x.1.toNat)) (0,0) ⟨by simp,by simp,by simp,by simp [depthL]⟩ rfl rfl ?_
 rintro ⟨i,z⟩ N ⟨h0,hi,hz0,hz⟩ hN
 simp only at h0 hi hz0 hz hN ⊢
 have hzb : z ≤ 1000000 := by
  have := nodesL_le ts i.toNat
  have := depth_nodesL (ts.take i.toNat)
  omega
 cbv
 (repeat'((first|(apply zS;kernel_rfl)|(apply zD;decide +kernel)|(apply zE;decide +kernel)|(apply zF;decide +kernel)|(apply zL;decide +kernel)|(apply zM;decide +kernel)|(apply zN;intros)|(apply zO;intros)|(apply zT;omega)|(apply zU;omega)|(apply zP;omega;intros)|(apply zQ;omega;intros)|apply zR);cbv))
 refine BinK.lss ?_ ?_ <;> intro hlt <;> cbv <;> (repeat'((first|(apply zS;kernel_rfl)|(apply zD;decide +kernel)|(apply zE;decide +kernel)|(apply zF;decide +kernel)|(apply zL;decide +kernel)|(apply zM;decide +kernel)|(apply zN;intros)|(apply zO;intros)|(apply zT;omega)|(apply zU;omega)|(apply zP;omega;intros)|(apply zQ;omega;intros)|apply zR);cbv))
 ·obtain ⟨t,ht,hT⟩ := hTat i.toNat (by omega)
  have hmem := List.mem_of_getElem? ht
  have hnt := nodesL_mem hmem
  have hdt := depth_nodesT t
  have cN := depthq_cp t (okL_get ho t hmem) (by omega)
  have hpt := ty_pure t
  have hst := depthL_step14 ht
  obtain ⟨M,hM1,hM2,hM3,hM4⟩ : ∃ M : Int,((depthT t : Nat) : Int) = M ∧ 0 ≤ M ∧ M ≤ 1000000 ∧ M.toNat = depthT t := ⟨_,rfl,by omega,by omega,by omega⟩
  rw [hM1] at cN
  have hgo : ∀ s r : Int,s = max z M -> r = i + 1 -> 0 ≤ s ∧ s.toNat = depthL (ts.take r.toNat) := fun s r hs hr => by
   rw [show r.toNat = i.toNat + 1 by omega,hst]
   omega
  obtain ⟨k0,n0,m0,L0,K0,f0,_,_⟩ := c4_node t
  rw [f0] at cN hpt hT
  clear f0 hst hM1 hM4 hc hQ hz hnt hdt
  refine IdxK.intro h0 hT ?_
  cbv
  (repeat'((first|(apply zS;kernel_rfl)|(apply zD;decide +kernel)|(apply zE;decide +kernel)|(apply zF;decide +kernel)|(apply zL;decide +kernel)|(apply zM;decide +kernel)|(apply zN;intros)|(apply zO;intros)|(apply zT;omega)|(apply zU;omega)|(apply zP;omega;intros)|(apply zQ;omega;intros)|apply zR);cbv))
  refine .one cN (cons_pure hpt rfl) rfl ?_
  cbv
  (repeat'((first|(apply zS;kernel_rfl)|(apply zD;decide +kernel)|(apply zE;decide +kernel)|(apply zF;decide +kernel)|(apply zL;decide +kernel)|(apply zM;decide +kernel)|(apply zN;intros)|(apply zO;intros)|(apply zT;omega)|(apply zU;omega)|(apply zP;omega;intros)|(apply zQ;omega;intros)|apply zR);cbv))
  refine max_two fun s hs2 => ?_
  cbv
  (repeat'((first|(apply zS;kernel_rfl)|(apply zD;decide +kernel)|(apply zE;decide +kernel)|(apply zF;decide +kernel)|(apply zL;decide +kernel)|(apply zM;decide +kernel)|(apply zN;intros)|(apply zO;intros)|(apply zT;omega)|(apply zU;omega)|(apply zP;omega;intros)|(apply zQ;omega;intros)|apply zR);cbv))
  rename_i r hr
  have hgo := hgo s r hs2 hr
  exact RoundK.next (r,s) ⟨by omega,by omega,hgo.1,hgo.2⟩ (by omega) rfl rfl
 have hallT : ts.take i.toNat = ts := List.take_of_length_le (by omega)
 rw [hallT] at hz
 clear hallT hTl hTi hTat hN
 obtain ⟨z1,hz1,hz1'⟩ : ∃ z1 : Int,z1 = z ∧ 0 ≤ z1 := ⟨z,rfl,hz0⟩
 rw [← hz1]
 rw [← hz1] at hz
 refine LoopK.put (X := Int × Int) (fun x => [(3,.raw (.int .i64 x.2)),(5,.raw (.int .i64 x.1))]) (fun _ => []) (fun x => ks.length - x.1.toNat)
  (fun x => 0 ≤ x.1 ∧ x.1.toNat ≤ ks.length ∧ 0 ≤ x.2 ∧ x.2.toNat = max (depthL ts) (depthEL (ks.take x.1.toNat))) (0,z1) ⟨by simp,by simp,hz1',by simpa [depthEL] using hz⟩ rfl rfl ?_
 rintro ⟨i,z⟩ N ⟨h0,hi,hz0,hz⟩ hN
 simp only at h0 hi hz0 hz hN ⊢
 have hzb : z ≤ 1000000 := by
  have := nodesEL_part ks i.toNat
  have := depth_nodesEL (ks.take i.toNat)
  omega
 cbv
 (repeat'((first|(apply zS;kernel_rfl)|(apply zD;decide +kernel)|(apply zE;decide +kernel)|(apply zF;decide +kernel)|(apply zL;decide +kernel)|(apply zM;decide +kernel)|(apply zN;intros)|(apply zO;intros)|(apply zT;omega)|(apply zU;omega)|(apply zP;omega;intros)|(apply zQ;omega;intros)|apply zR);cbv))
 refine BinK.lss ?_ ?_ <;> intro hlt <;> cbv <;> (repeat'((first|(apply zS;kernel_rfl)|(apply zD;decide +kernel)|(apply zE;decide +kernel)|(apply zF;decide +kernel)|(apply zL;decide +kernel)|(apply zM;decide +kernel)|(apply zN;intros)|(apply zO;intros)|(apply zT;omega)|(apply zU;omega)|(apply zP;omega;intros)|(apply zQ;omega;intros)|apply zR);cbv))
 ·obtain ⟨t,ht,hK⟩ := hKat i.toNat (by omega)
  have hmem := List.mem_of_getElem? ht
  have hnt := nodesEL_mem hmem
  have hxt := depth_nodesE t
  have hpt := ex_pure t
  have hst := depthEL_step ht
  obtain ⟨M,hM2,hM3,hM4⟩ : ∃ M : Int,0 ≤ M ∧ M ≤ 1000000 ∧ M.toNat = depthE t := ⟨((depthE t : Nat) : Int),by omega,by omega,by omega⟩
  have cN := hc t hmem M hM2 hM4
  have hgo : ∀ s r : Int,s = max z M -> r = i + 1 -> 0 ≤ s ∧ s.toNat = max (depthL ts) (depthEL (ks.take r.toNat)) := fun s r hs hr => by
   rw [show r.toNat = i.toNat + 1 by omega,hst]
   omega
  obtain ⟨k0,n0,m0,b0,T0,L0,K0,f0,_,_,_⟩ := ex_node t
  rw [f0] at cN hpt hK
  clear f0 hst hM4 hc hQ hz hnt hxt
  refine IdxK.intro h0 hK ?_
  cbv
  (repeat'((first|(apply zS;kernel_rfl)|(apply zD;decide +kernel)|(apply zE;decide +kernel)|(apply zF;decide +kernel)|(apply zL;decide +kernel)|(apply zM;decide +kernel)|(apply zN;intros)|(apply zO;intros)|(apply zT;omega)|(apply zU;omega)|(apply zP;omega;intros)|(apply zQ;omega;intros)|apply zR);cbv))
  refine .one cN (cons_pure hpt rfl) rfl ?_
  cbv
  (repeat'((first|(apply zS;kernel_rfl)|(apply zD;decide +kernel)|(apply zE;decide +kernel)|(apply zF;decide +kernel)|(apply zL;decide +kernel)|(apply zM;decide +kernel)|(apply zN;intros)|(apply zO;intros)|(apply zT;omega)|(apply zU;omega)|(apply zP;omega;intros)|(apply zQ;omega;intros)|apply zR);cbv))
  refine max_two fun s hs2 => ?_
  cbv
  (repeat'((first|(apply zS;kernel_rfl)|(apply zD;decide +kernel)|(apply zE;decide +kernel)|(apply zF;decide +kernel)|(apply zL;decide +kernel)|(apply zM;decide +kernel)|(apply zN;intros)|(apply zO;intros)|(apply zT;omega)|(apply zU;omega)|(apply zP;omega;intros)|(apply zQ;omega;intros)|apply zR);cbv))
  rename_i r hr
  have hgo := hgo s r hs2 hr
  exact RoundK.next (r,s) ⟨by omega,by omega,hgo.1,hgo.2⟩ (by omega) rfl rfl
 ·have hall : ks.take i.toNat = ks := List.take_of_length_le (by omega)
  rw [hall] at hz
  rename_i r hr
  exact ⟨hQ r (by omega) (by omega) _⟩
theorem rdepthE_cp : ∀ e : Ex7,okE e -> nodesE e ≤ 1000000 -> CP (TT ()) 15 [exD e] (· = .raw (.int .i64 (depthE e))) := by
 refine ex_ind fun k n nm hs ts ls ks ih ho hn => c4_run fun Q hQ => ?_
 simp only [nodesE] at hn
 refine rdepthE_run k n nm hs ts ls ks ho.2.1 (by omega) (fun t ht => ih t ht (okEL_get ho.2.2.2 t ht) ?_) Q hQ
 have := nodesEL_mem ht
 omega
theorem sameS14_cp (a b : List ByteArray) (ha : ∀ u ∈ a,u.size ≤ maxLen) (hb : ∀ u ∈ b,u.size ≤ maxLen) : CP (TT ()) 19 [.sl none 1 (a.map strD),.sl none 1 (b.map strD)] (· = .raw (.bool (eqL a b))) :=
 cp_raw (callable_at Try.func19 (by kernel_rfl) rfl) fun S w args r => by
  obtain ⟨v,v',rfl,h,h'⟩ := rdL_two r
  exact rsameS_any v v' a b w (strs_in h ha) (strs_in h' hb)
theorem sameAll2_run (a b : List Ty5) (hl : a.length = b.length) (hks : a.length ≤ 9223372036854775807)
  (hc : ∀ t ∈ a,∀ u ∈ b,CP (TT ()) 52 [tyD t,tyD u] (· = .raw (.bool (sameT t u)))) (Q : D -> H -> Prop) (hQ : ∀ h',Q (.raw (.bool (sameL a b))) h') :
  wfun TT 38 [.sl none 5 (tysD a),.sl none 5 (tysD b)] [] Q := by
 have q2 : sameL a b ≠ true -> ∀ h',Q (.raw (.bool false)) h' := fun h => by rw [Bool.eq_false_iff.2 h] at hQ;exact hQ
 have q3 : sameL a b = true -> ∀ h',Q (.raw (.bool true)) h' := fun h => by rw [h] at hQ;exact hQ
 have hKl := tys_len a
 have hKl' := tys_len b
 have hKi := tys_idb a
 have hKi' := tys_idb b
 have hKat := fun i => tys_at (ks := a) (i := i)
 have hKat' := fun i => tys_at (ks := b) (i := i)
 clear hQ
 generalize tysD a = KS at hKl hKi hKat ⊢
 generalize tysD b = KS' at hKl' hKi' hKat' ⊢
 cbv
 (repeat'((first|(apply zS;kernel_rfl)|(apply zD;decide +kernel)|(apply zE;decide +kernel)|(apply zF;decide +kernel)|(apply zL;decide +kernel)|(apply zM;decide +kernel)|(apply zN;intros)|(apply zO;intros)|(apply zT;omega)|(apply zU;omega)|(apply zP;omega;intros)|(apply zQ;omega;intros)|apply zR|(apply yA;omega)|(apply yB;omega)|(apply yC;omega)|(apply yD;omega)|(apply yE;omega)|(apply yF;omega)|(apply yG;omega)|(apply yH;omega)|(apply yI;omega)|(apply yJ;omega)|(apply yK;omega)|(apply yL;omega)|fail);cbv))
 refine LoopK.put (X := Int) (fun x => [(5,.raw (.int .i64 x))]) (fun _ => []) (fun x => a.length - x.toNat) (fun x => 0 ≤ x ∧ x.toNat ≤ a.length ∧ ∀ (j : Nat) (t u : Ty5),j < x.toNat -> a[j]? = some t -> b[j]? = some u -> sameT t u = true) 0 ⟨by simp,by simp,fun j t u hj => absurd hj (Nat.not_lt_zero _)⟩ rfl rfl ?_
 rintro i N ⟨h0,hi,hj⟩ hN
 simp only at h0 hi hj hN ⊢
 cbv
 (repeat'((first|(apply zS;kernel_rfl)|(apply zD;decide +kernel)|(apply zE;decide +kernel)|(apply zF;decide +kernel)|(apply zL;decide +kernel)|(apply zM;decide +kernel)|(apply zN;intros)|(apply zO;intros)|(apply zT;omega)|(apply zU;omega)|(apply zP;omega;intros)|(apply zQ;omega;intros)|apply zR);cbv))
 refine BinK.lss ?_ ?_ <;> intro hlt <;> cbv <;> (repeat'((first|(apply zS;kernel_rfl)|(apply zD;decide +kernel)|(apply zE;decide +kernel)|(apply zF;decide +kernel)|(apply zL;decide +kernel)|(apply zM;decide +kernel)|(apply zN;intros)|(apply zO;intros)|(apply zT;omega)|(apply zU;omega)|(apply zP;omega;intros)|(apply zQ;omega;intros)|apply zR|(apply yA;omega)|(apply yB;omega)|(apply yC;omega)|(apply yD;omega)|(apply yE;omega)|(apply yF;omega)|(apply yG;omega)|(apply yH;omega)|(apply yI;omega)|(apply yJ;omega)|(apply yK;omega)|(apply yL;omega)|fail);cbv))
 ·obtain ⟨t,ht,hK⟩ := hKat i.toNat (by omega)
  obtain ⟨u,hu,hK'⟩ := hKat' i.toNat (by omega)
  have hct := hc t (List.mem_of_getElem? ht) u (List.mem_of_getElem? hu)
  have hpt := ty_pure t
  have hpu := ty_pure u
  have hno : sameT t u = false -> ∀ h',Q (.raw (.bool false)) h' := fun e => q2 fun h => by
   have := (sameL_at hl).1 h i.toNat t u ht hu
   rw [e] at this
   cases this
  have hnext : sameT t u = true -> ∀ r : Int,r = i + 1 -> ∀ (j : Nat) (t u : Ty5),j < r.toNat -> a[j]? = some t -> b[j]? = some u -> sameT t u = true := fun e r hr j x y hjr hx hy => by
   by_cases hji : j = i.toNat
   ·rw [hji,ht] at hx
    rw [hji,hu] at hy
    cases hx
    cases hy
    exact e
   ·exact hj j x y (by omega) hx hy
  generalize sameT t u = bb at hct hno hnext
  obtain ⟨k0,n0,m0,L0,K0,f0,i0,j0⟩ := c4_node t
  obtain ⟨k1,n1,m1,L1,K1,f1,i1,j1⟩ := c4_node u
  clear i0 j0 i1 j1
  rw [f0] at hct hpt hK
  rw [f1] at hct hpu hK'
  clear f0 f1 hc q2 q3 hj ht hu
  refine IdxK.intro h0 hK ?_
  cbv
  (repeat'((first|(apply zS;kernel_rfl)|(apply zD;decide +kernel)|(apply zE;decide +kernel)|(apply zF;decide +kernel)|(apply zL;decide +kernel)|(apply zM;decide +kernel)|(apply zN;intros)|(apply zO;intros)|(apply zT;omega)|(apply zU;omega)|(apply zP;omega;intros)|(apply zQ;omega;intros)|apply zR);cbv))
  refine IdxK.intro h0 hK' ?_
  cbv
  (repeat'((first|(apply zS;kernel_rfl)|(apply zD;decide +kernel)|(apply zE;decide +kernel)|(apply zF;decide +kernel)|(apply zL;decide +kernel)|(apply zM;decide +kernel)|(apply zN;intros)|(apply zO;intros)|(apply zT;omega)|(apply zU;omega)|(apply zP;omega;intros)|(apply zQ;omega;intros)|apply zR);cbv))
  refine .one hct (cons_pure hpt (cons_pure hpu rfl)) rfl ?_
  rcases bb with _ | _
  ·cbv
   (repeat'((first|(apply zS;kernel_rfl)|(apply zD;decide +kernel)|(apply zE;decide +kernel)|(apply zF;decide +kernel)|(apply zL;decide +kernel)|(apply zM;decide +kernel)|(apply zN;intros)|(apply zO;intros)|(apply zT;omega)|(apply zU;omega)|(apply zP;omega;intros)|(apply zQ;omega;intros)|apply zR);cbv))
   exact ⟨hno rfl _⟩
  have hnext := hnext rfl
  cbv
  (repeat'((first|(apply zS;kernel_rfl)|(apply zD;decide +kernel)|(apply zE;decide +kernel)|(apply zF;decide +kernel)|(apply zL;decide +kernel)|(apply zM;decide +kernel)|(apply zN;intros)|(apply zO;intros)|(apply zT;omega)|(apply zU;omega)|(apply zP;omega;intros)|(apply zQ;omega;intros)|apply zR);cbv))
  rename_i r hr
  have hnext := hnext r hr
  exact RoundK.next r ⟨by omega,by omega,hnext⟩ (by omega) rfl rfl
 ·have hLt : sameL a b = true := (sameL_at hl).2 fun j t u ht hu => hj j t u (by have := (List.getElem?_eq_some_iff.1 ht).1;omega) ht hu
  exact ⟨q3 hLt _⟩
theorem sameAll2_off (a b : List Ty5) (hl : a.length ≠ b.length) (Q : D -> H -> Prop) (hQ : ∀ h',Q (.raw (.bool false)) h') : wfun TT 38 [.sl none 5 (tysD a),.sl none 5 (tysD b)] [] Q := by
 have hKl := tys_len a
 have hKl' := tys_len b
 generalize tysD a = KS at hKl ⊢
 generalize tysD b = KS' at hKl' ⊢
 cbv
 (repeat'((first|(apply zS;kernel_rfl)|(apply zD;decide +kernel)|(apply zE;decide +kernel)|(apply zF;decide +kernel)|(apply zL;decide +kernel)|(apply zM;decide +kernel)|(apply zN;intros)|(apply zO;intros)|(apply zT;omega)|(apply zU;omega)|(apply zP;omega;intros)|(apply zQ;omega;intros)|apply zR|(apply yA;omega)|(apply yB;omega)|(apply yC;omega)|(apply yD;omega)|(apply yE;omega)|(apply yF;omega)|(apply yG;omega)|(apply yH;omega)|(apply yI;omega)|(apply yJ;omega)|(apply yK;omega)|(apply yL;omega)|fail);cbv))
 exact ⟨hQ _⟩
theorem sameAll2_cp (a b : List Ty5) (ha : okT.okL a) (hb : okT.okL b) (hk : a.length ≤ 9223372036854775807) : CP (TT ()) 38 [.sl none 5 (tysD a),.sl none 5 (tysD b)] (· = .raw (.bool (sameL a b))) := by
 by_cases hl : a.length = b.length
 ·exact c4_run (sameAll2_run a b hl hk fun t ht u hu => sameq_cp t u (okL_get ha t ht) (okL_get hb u hu))
 ·have e : sameL a b = false := by
   rw [Bool.eq_false_iff]
   exact fun h => hl (sameL_len14 h)
  rw [e]
  exact c4_run (sameAll2_off a b hl)
theorem rsameE_run (k n : Int) (nm : ByteArray) (hs : Bool) (ts : List Ty5) (ls : List ByteArray) (ks : List Ex7) (k' n' : Int) (nm' : ByteArray) (hs' : Bool) (ts' : List Ty5) (ls' : List ByteArray) (ks' : List Ex7)
  (ha : okE (.mk k n nm hs ts ls ks)) (hb : okE (.mk k' n' nm' hs' ts' ls' ks')) (hts : ts.length ≤ 1000000) (hks : ks.length ≤ 1000000)
  (hc : ∀ t ∈ ks,∀ u ∈ ks',CP (TT ()) 18 [exD t,exD u] (· = .raw (.bool (sameE t u)))) (Q : D -> H -> Prop) (hQ : ∀ h',Q (.raw (.bool (sameE (.mk k n nm hs ts ls ks) (.mk k' n' nm' hs' ts' ls' ks')))) h') :
  wfun TT 18 [exD (.mk k n nm hs ts ls ks),exD (.mk k' n' nm' hs' ts' ls' ks')] [] Q := by
 have c1 := sameAll2_cp ts ts' ha.2.1 hb.2.1 (by omega)
 have c2 := sameS14_cp ls ls' ha.2.2.1 hb.2.2.1
 have q2 : ¬ (k = k' ∧ n = n' ∧ nm = nm' ∧ hs = hs' ∧ sameL ts ts' = true ∧ eqL ls ls' = true ∧ sameEL ks ks' = true) -> ∀ h',Q (.raw (.bool false)) h' := fun h => by
  have : sameE (.mk k n nm hs ts ls ks) (.mk k' n' nm' hs' ts' ls' ks') = false := by
   rw [Bool.eq_false_iff]
   intro e
   simp only [sameE,Bool.and_eq_true,beq_iff_eq] at e
   exact h ⟨e.1,e.2.1,eqS_eq e.2.2.1,e.2.2.2.1,e.2.2.2.2.1,e.2.2.2.2.2.1,e.2.2.2.2.2.2⟩
  rw [this] at hQ
  exact hQ
 have q3 : k = k' -> n = n' -> nm = nm' -> hs = hs' -> sameL ts ts' = true -> eqL ls ls' = true -> sameEL ks ks' = true -> ∀ h',Q (.raw (.bool true)) h' := fun h1 h2 h3 h4 h5 h6 h7 => by
  have : sameE (.mk k n nm hs ts ls ks) (.mk k' n' nm' hs' ts' ls' ks') = true := by
   subst h1 h2 h3 h4
   simp [sameE,h5,h6,h7,eqS]
  rw [this] at hQ
  exact hQ
 have hlen : sameEL ks ks' = true -> ks.length = ks'.length := sameEL_len
 have hTp := tys_pure ts
 have hTp' := tys_pure ts'
 have hLp := strs_pure ls
 have hLp' := strs_pure ls'
 have hKl := exs_len ks
 have hKl' := exs_len ks'
 have hKi := exs_idb ks
 have hKi' := exs_idb ks'
 have hKat := fun i => exs_at (ks := ks) (i := i)
 have hKat' := fun i => exs_at (ks := ks') (i := i)
 have hLi := strs_idb ls
 have hLi' := strs_idb ls'
 have hTi := tys_idb ts
 have hTi' := tys_idb ts'
 clear hQ ha hb
 simp only [exD]
 generalize ls.map strD = LS at c2 hLp hLi ⊢
 generalize ls'.map strD = LS' at c2 hLp' hLi' ⊢
 generalize tysD ts = TS at c1 hTp hTi ⊢
 generalize tysD ts' = TS' at c1 hTp' hTi' ⊢
 generalize exsD ks = KS at hKl hKi hKat ⊢
 generalize exsD ks' = KS' at hKl' hKi' hKat' ⊢
 generalize sameL ts ts' = b1 at c1 q2 q3
 generalize eqL ls ls' = b2 at c2 q2 q3
 cbv
 (repeat'((first|(apply zS;kernel_rfl)|(apply zD;decide +kernel)|(apply zE;decide +kernel)|(apply zF;decide +kernel)|(apply zL;decide +kernel)|(apply zM;decide +kernel)|(apply zN;intros)|(apply zO;intros)|(apply zT;omega)|(apply zU;omega)|(apply zP;omega;intros)|(apply zQ;omega;intros)|apply zR);cbv))
 refine BinK.neq ?_ ?_ <;> intro h1 <;> cbv <;> (repeat'((first|(apply zS;kernel_rfl)|(apply zD;decide +kernel)|(apply zE;decide +kernel)|(apply zF;decide +kernel)|(apply zL;decide +kernel)|(apply zM;decide +kernel)|(apply zN;intros)|(apply zO;intros)|(apply zT;omega)|(apply zU;omega)|(apply zP;omega;intros)|(apply zQ;omega;intros)|apply zR);cbv))
 ·exact ⟨q2 (fun h => h1 h.1) _⟩
 refine BinK.neq ?_ ?_ <;> intro h2 <;> cbv <;> (repeat'((first|(apply zS;kernel_rfl)|(apply zD;decide +kernel)|(apply zE;decide +kernel)|(apply zF;decide +kernel)|(apply zL;decide +kernel)|(apply zM;decide +kernel)|(apply zN;intros)|(apply zO;intros)|(apply zT;omega)|(apply zU;omega)|(apply zP;omega;intros)|(apply zQ;omega;intros)|apply zR);cbv))
 ·exact ⟨q2 (fun h => h2 h.2.1) _⟩
 refine BinK.sneq ?_ ?_ <;> intro h3 <;> cbv <;> (repeat'((first|(apply zS;kernel_rfl)|(apply zD;decide +kernel)|(apply zE;decide +kernel)|(apply zF;decide +kernel)|(apply zL;decide +kernel)|(apply zM;decide +kernel)|(apply zN;intros)|(apply zO;intros)|(apply zT;omega)|(apply zU;omega)|(apply zP;omega;intros)|(apply zQ;omega;intros)|apply zR);cbv))
 ·exact ⟨q2 (fun h => h3 h.2.2.1) _⟩
 rcases (show hs = hs' ∨ hs ≠ hs' from Classical.em _) with h4 | h4
 case' inr =>
  refine ⟨.bool true,by cases hs <;> cases hs' <;> first | rfl | exact absurd rfl h4,?_⟩
  cbv
  (repeat'((first|(apply zS;kernel_rfl)|(apply zD;decide +kernel)|(apply zE;decide +kernel)|(apply zF;decide +kernel)|(apply zL;decide +kernel)|(apply zM;decide +kernel)|(apply zN;intros)|(apply zO;intros)|(apply zT;omega)|(apply zU;omega)|(apply zP;omega;intros)|(apply zQ;omega;intros)|apply zR);cbv))
  exact ⟨q2 (fun h => h4 h.2.2.2.1) _⟩
 subst h4
 refine ⟨.bool false,by cases hs <;> rfl,?_⟩
 cbv
 (repeat'((first|(apply zS;kernel_rfl)|(apply zD;decide +kernel)|(apply zE;decide +kernel)|(apply zF;decide +kernel)|(apply zL;decide +kernel)|(apply zM;decide +kernel)|(apply zN;intros)|(apply zO;intros)|(apply zT;omega)|(apply zU;omega)|(apply zP;omega;intros)|(apply zQ;omega;intros)|apply zR);cbv))
 refine .one c1 (by simp [pureL,pureD,hTp,hTp']) rfl ?_
 rcases b1 with _ | _
 ·cbv
  (repeat'((first|(apply zS;kernel_rfl)|(apply zD;decide +kernel)|(apply zE;decide +kernel)|(apply zF;decide +kernel)|(apply zL;decide +kernel)|(apply zM;decide +kernel)|(apply zN;intros)|(apply zO;intros)|(apply zT;omega)|(apply zU;omega)|(apply zP;omega;intros)|(apply zQ;omega;intros)|apply zR);cbv))
  exact ⟨q2 (fun h => by cases h.2.2.2.2.1) _⟩
 cbv
 (repeat'((first|(apply zS;kernel_rfl)|(apply zD;decide +kernel)|(apply zE;decide +kernel)|(apply zF;decide +kernel)|(apply zL;decide +kernel)|(apply zM;decide +kernel)|(apply zN;intros)|(apply zO;intros)|(apply zT;omega)|(apply zU;omega)|(apply zP;omega;intros)|(apply zQ;omega;intros)|apply zR);cbv))
 refine .one c2 (by simp [pureL,pureD,hLp,hLp']) rfl ?_
 rcases b2 with _ | _
 ·cbv
  (repeat'((first|(apply zS;kernel_rfl)|(apply zD;decide +kernel)|(apply zE;decide +kernel)|(apply zF;decide +kernel)|(apply zL;decide +kernel)|(apply zM;decide +kernel)|(apply zN;intros)|(apply zO;intros)|(apply zT;omega)|(apply zU;omega)|(apply zP;omega;intros)|(apply zQ;omega;intros)|apply zR);cbv))
  exact ⟨q2 (fun h => by cases h.2.2.2.2.2.1) _⟩
 cbv
 (repeat'((first|(apply zS;kernel_rfl)|(apply zD;decide +kernel)|(apply zE;decide +kernel)|(apply zF;decide +kernel)|(apply zL;decide +kernel)|(apply zM;decide +kernel)|(apply zN;intros)|(apply zO;intros)|(apply zT;omega)|(apply zU;omega)|(apply zP;omega;intros)|(apply zQ;omega;intros)|apply zR);cbv))
 refine BinK.neq ?_ ?_ <;> intro h5 <;> cbv <;> (repeat'((first|(apply zS;kernel_rfl)|(apply zD;decide +kernel)|(apply zE;decide +kernel)|(apply zF;decide +kernel)|(apply zL;decide +kernel)|(apply zM;decide +kernel)|(apply zN;intros)|(apply zO;intros)|(apply zT;omega)|(apply zU;omega)|(apply zP;omega;intros)|(apply zQ;omega;intros)|apply zR);cbv))
 ·exact ⟨q2 (fun h => by have := hlen h.2.2.2.2.2.2;omega) _⟩
 have hl : ks.length = ks'.length := by omega
 have q3 := q3 h1 h2 h3 rfl rfl rfl
 replace q2 : sameEL ks ks' ≠ true -> ∀ h',Q (.raw (.bool false)) h' := fun h => q2 fun g => h g.2.2.2.2.2.2
 refine LoopK.put (X := Int) (fun x => [(5,.raw (.int .i64 x))]) (fun _ => []) (fun x => ks.length - x.toNat) (fun x => 0 ≤ x ∧ x.toNat ≤ ks.length ∧ ∀ (j : Nat) (t u : Ex7),j < x.toNat -> ks[j]? = some t -> ks'[j]? = some u -> sameE t u = true) 0 ⟨by simp,by simp,fun j t u hj => absurd hj (Nat.not_lt_zero _)⟩ rfl rfl ?_
 rintro i N ⟨h0,hi,hj⟩ hN
 simp only at h0 hi hj hN ⊢
 cbv
 (repeat'((first|(apply zS;kernel_rfl)|(apply zD;decide +kernel)|(apply zE;decide +kernel)|(apply zF;decide +kernel)|(apply zL;decide +kernel)|(apply zM;decide +kernel)|(apply zN;intros)|(apply zO;intros)|(apply zT;omega)|(apply zU;omega)|(apply zP;omega;intros)|(apply zQ;omega;intros)|apply zR);cbv))
 refine BinK.lss ?_ ?_ <;> intro hlt <;> cbv <;> (repeat'((first|(apply zS;kernel_rfl)|(apply zD;decide +kernel)|(apply zE;decide +kernel)|(apply zF;decide +kernel)|(apply zL;decide +kernel)|(apply zM;decide +kernel)|(apply zN;intros)|(apply zO;intros)|(apply zT;omega)|(apply zU;omega)|(apply zP;omega;intros)|(apply zQ;omega;intros)|apply zR|(apply yA;omega)|(apply yB;omega)|(apply yC;omega)|(apply yD;omega)|(apply yE;omega)|(apply yF;omega)|(apply yG;omega)|(apply yH;omega)|(apply yI;omega)|(apply yJ;omega)|(apply yK;omega)|(apply yL;omega)|fail);cbv))
 ·obtain ⟨t,ht,hK⟩ := hKat i.toNat (by omega)
  obtain ⟨u,hu,hK'⟩ := hKat' i.toNat (by omega)
  have hct := hc t (List.mem_of_getElem? ht) u (List.mem_of_getElem? hu)
  have hpt := ex_pure t
  have hpu := ex_pure u
  have hno : sameE t u = false -> ∀ h',Q (.raw (.bool false)) h' := fun e => q2 fun h => by
   have := (sameEL_at hl).1 h i.toNat t u ht hu
   rw [e] at this
   cases this
  have hnext : sameE t u = true -> ∀ r : Int,r = i + 1 -> ∀ (j : Nat) (t u : Ex7),j < r.toNat -> ks[j]? = some t -> ks'[j]? = some u -> sameE t u = true := fun e r hr j x y hjr hx hy => by
   by_cases hji : j = i.toNat
   ·rw [hji,ht] at hx
    rw [hji,hu] at hy
    cases hx
    cases hy
    exact e
   ·exact hj j x y (by omega) hx hy
  generalize sameE t u = bb at hct hno hnext
  obtain ⟨k0,n0,m0,b0,T0,L0,K0,f0,_,_,_⟩ := ex_node t
  obtain ⟨k1,n1,m1,b1,T1,L1,K1,f1,_,_,_⟩ := ex_node u
  rw [f0] at hct hpt hK
  rw [f1] at hct hpu hK'
  clear f0 f1 hc q2 q3 hj ht hu
  refine IdxK.intro h0 hK ?_
  cbv
  (repeat'((first|(apply zS;kernel_rfl)|(apply zD;decide +kernel)|(apply zE;decide +kernel)|(apply zF;decide +kernel)|(apply zL;decide +kernel)|(apply zM;decide +kernel)|(apply zN;intros)|(apply zO;intros)|(apply zT;omega)|(apply zU;omega)|(apply zP;omega;intros)|(apply zQ;omega;intros)|apply zR);cbv))
  refine IdxK.intro h0 hK' ?_
  cbv
  (repeat'((first|(apply zS;kernel_rfl)|(apply zD;decide +kernel)|(apply zE;decide +kernel)|(apply zF;decide +kernel)|(apply zL;decide +kernel)|(apply zM;decide +kernel)|(apply zN;intros)|(apply zO;intros)|(apply zT;omega)|(apply zU;omega)|(apply zP;omega;intros)|(apply zQ;omega;intros)|apply zR);cbv))
  refine .one hct (cons_pure hpt (cons_pure hpu rfl)) rfl ?_
  rcases bb with _ | _
  ·cbv
   (repeat'((first|(apply zS;kernel_rfl)|(apply zD;decide +kernel)|(apply zE;decide +kernel)|(apply zF;decide +kernel)|(apply zL;decide +kernel)|(apply zM;decide +kernel)|(apply zN;intros)|(apply zO;intros)|(apply zT;omega)|(apply zU;omega)|(apply zP;omega;intros)|(apply zQ;omega;intros)|apply zR);cbv))
   exact ⟨hno rfl _⟩
  have hnext := hnext rfl
  cbv
  (repeat'((first|(apply zS;kernel_rfl)|(apply zD;decide +kernel)|(apply zE;decide +kernel)|(apply zF;decide +kernel)|(apply zL;decide +kernel)|(apply zM;decide +kernel)|(apply zN;intros)|(apply zO;intros)|(apply zT;omega)|(apply zU;omega)|(apply zP;omega;intros)|(apply zQ;omega;intros)|apply zR);cbv))
  rename_i r hr
  have hnext := hnext r hr
  exact RoundK.next r ⟨by omega,by omega,hnext⟩ (by omega) rfl rfl
 ·have hLt : sameEL ks ks' = true := (sameEL_at hl).2 fun j t u ht hu => hj j t u (by have := (List.getElem?_eq_some_iff.1 ht).1;omega) ht hu
  exact ⟨q3 hLt _⟩
theorem rsameE_cp : ∀ a : Ex7,okE a -> nodesE a ≤ 1000000 -> ∀ b,okE b -> CP (TT ()) 18 [exD a,exD b] (· = .raw (.bool (sameE a b))) := by
 refine ex_ind fun k n nm hs ts ls ks ih ho hn b hb => ?_
 obtain ⟨k',n',nm',hs',ts',ls',ks'⟩ := b
 have h1 := nodesL_len ts
 have h2 := nodesEL_len ks
 simp only [nodesE] at hn
 refine c4_run (rsameE_run k n nm hs ts ls ks k' n' nm' hs' ts' ls' ks' ho hb (by omega) (by omega) fun t ht u hu => ih t ht (okEL_get ho.2.2.2 t ht) ?_ u (okEL_get hb.2.2.2 u hu))
 have := nodesEL_mem ht
 omega
end Go.Proofs.Ytglefhgcfijiaaa

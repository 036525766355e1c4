/- Parts of the proof: PwT, PwR, PwY, PwEx, PvF, PvX, PvX2, PvY, PvZ, PvD, PvU, PvV. -/
import Derived.KernelRfl
import Derived.ChangeArms
import Derived.WideShapes
import Derived.Test.YtkoabcncdjmoeaaGreatDoorRows
import Derived.MapKept
import Derived.Defers
import Derived.Recover
import Derived.Test.YtkoabcncdjmoeaaGreatDoorMc
import Derived.Test.YtkoabcncdjmoeaaGreatDoorMd
set_option linter.unusedSimpArgs false
set_option linter.unusedVariables false
set_option maxRecDepth 1000000
set_option maxHeartbeats 40000000
namespace Go.Proofs.YtkoabcncdjmoeaaGreatDoor
open Go.RowKit Pv
noncomputable def TT : TP := fun _ => Tryz.prog
def strD (s : ByteArray) : D := .raw (.string s)
mutual
def tyD : Ty5 -> D
 | .mk k n nm ls ks => .agg [.raw (.int .i64 k),.raw (.int .i64 n),.raw (.string nm),.sl none 1 (ls.map strD),.sl none 5 (tysD ks)]
def tysD : List Ty5 -> List D
 | [] => []
 | t :: r => tyD t :: tysD r
end
theorem tysD_map : ∀ ks : List Ty5,tysD ks = ks.map tyD
 | [] => rfl
 | t :: r => by simp [tysD,tysD_map r]
theorem strs_pure : ∀ ls : List ByteArray,pureL (ls.map strD) = some (ls.map strD)
 | [] => rfl
 | s :: r => by
  have := strs_pure r
  simp only [List.map_cons,pureL,this]
  try rfl
mutual
theorem ty_pure : ∀ t : Ty5,pureD (tyD t) = some (tyD t)
 | .mk k n nm ls ks => by
  simp [tyD,pureD,pureL,strs_pure ls,tys_pure ks]
theorem tys_pure : ∀ ks : List Ty5,pureL (tysD ks) = some (tysD ks)
 | [] => rfl
 | t :: r => by simp [tysD,pureL,ty_pure t,tys_pure r]
end
theorem cons_pure {d : D} {r : List D} (h1 : pureD d = some d) (h2 : pureL r = some r) : pureL (d :: r) = some (d :: r) := by simp only [pureL,h1,h2]
mutual
theorem pure_idb (m : Nat) : ∀ d : D,pureD d = some d -> idb m d = true
 | .any,e => by cases e
 | .raw _,_ => rfl
 | .sln _,_ => rfl
 | .agg ds,e => by
  simp only [pureD,Option.map_eq_some_iff] at e
  obtain ⟨es,h1,h2⟩ := e
  cases h2
  exact pure_idbL m ds h1
 | .tup ds,e => by
  simp only [pureD,Option.map_eq_some_iff] at e
  obtain ⟨es,h1,h2⟩ := e
  cases h2
  exact pure_idbL m ds h1
 | .sl tag sz ds,e => by
  simp only [pureD,Option.map_eq_some_iff] at e
  obtain ⟨es,h1,h2⟩ := e
  cases h2
  simp [idb,pure_idbL m ds h1]
 | .bx _ _,e => by cases e
 | .ms _ _ _,e => by cases e
 | .mp _ _ _ _,e => by cases e
 | .pe d off,e => by
  simp only [pureD,Option.map_eq_some_iff] at e
  obtain ⟨es,h1,h2⟩ := e
  cases h2
  exact pure_idb m d h1
 | .fn g a b,e => by
  simp only [pureD] at e
  split at e
  ·rename_i a' b' h1 h2
   cases e
   simp [idb,pure_idbL m a h1,pure_idbL m b h2]
  ·cases e
 | .ifc t d,e => by
  simp only [pureD,Option.map_eq_some_iff] at e
  obtain ⟨es,h1,h2⟩ := e
  cases h2
  exact pure_idb m d h1
theorem pure_idbL (m : Nat) : ∀ ds : List D,pureL ds = some ds -> idbL m ds = true
 | [],_ => rfl
 | d :: ds,e => by
  simp only [pureL] at e
  split at e
  ·rename_i d' ds' h1 h2
   cases e
   simp [idbL,pure_idb m d h1,pure_idbL m ds h2]
  ·cases e
end
mutual
theorem pure_ren (f : Nat -> Nat) : ∀ d : D,pureD d = some d -> renD f d = d
 | .any,e => by cases e
 | .raw _,_ => rfl
 | .sln _,_ => rfl
 | .agg ds,e => by
  simp only [pureD,Option.map_eq_some_iff] at e
  obtain ⟨es,h1,h2⟩ := e
  cases h2
  simp [renD,pure_renL f ds h1]
 | .tup ds,e => by
  simp only [pureD,Option.map_eq_some_iff] at e
  obtain ⟨es,h1,h2⟩ := e
  cases h2
  simp [renD,pure_renL f ds h1]
 | .sl tag sz ds,e => by
  simp only [pureD,Option.map_eq_some_iff] at e
  obtain ⟨es,h1,h2⟩ := e
  cases h2
  simp [renD,pure_renL f ds h1]
 | .bx _ _,e => by cases e
 | .ms _ _ _,e => by cases e
 | .mp _ _ _ _,e => by cases e
 | .pe d off,e => by
  simp only [pureD,Option.map_eq_some_iff] at e
  obtain ⟨es,h1,h2⟩ := e
  cases h2
  simp [renD,pure_ren f d h1]
 | .fn g a b,e => by
  simp only [pureD] at e
  split at e
  ·rename_i a' b' h1 h2
   cases e
   simp [renD,pure_renL f a h1,pure_renL f b h2]
  ·cases e
 | .ifc t d,e => by
  simp only [pureD,Option.map_eq_some_iff] at e
  obtain ⟨es,h1,h2⟩ := e
  cases h2
  simp [renD,pure_ren f d h1]
theorem pure_renL (f : Nat -> Nat) : ∀ ds : List D,pureL ds = some ds -> renL f ds = ds
 | [],_ => rfl
 | d :: ds,e => by
  simp only [pureL] at e
  split at e
  ·rename_i d' ds' h1 h2
   cases e
   simp [renL,pure_ren f d h1,pure_renL f ds h2]
  ·cases e
end
def okT : Ty5 -> Prop
 | .mk _ _ nm ls ks => nm.size ≤ maxLen ∧ (∀ s ∈ ls,s.size ≤ maxLen) ∧ okL ks
where okL : List Ty5 -> Prop
 | [] => True
 | t :: r => okT t ∧ okL r
section
variable {C : Cx} {w : World}
theorem strs_in {ls : List ByteArray} {v : Value} (h : Rd C w (.sl none 1 (ls.map strD)) v) (hs : ∀ s ∈ ls,s.size ≤ maxLen) : StrsAt w v ls := by
 obtain ⟨⟨a,cap,rfl,hc1,hc2⟩,hx,_⟩ := h
 simp only [List.length_map] at *
 refine ⟨hs,by omega,?_⟩
 by_cases h0 : 0 < ls.length
 ·obtain ⟨b,off,cap',hv,_,hr⟩ := hx h0
  simp at hv
  obtain ⟨rfl,rfl⟩ := hv
  have hcell : ∀ j,j < ls.length -> w.cell? ⟨b,off + j,none⟩ = some (.string (stAt ls j)) := fun j hj => by
   obtain ⟨u,k1,k2,_,k4⟩ := hr.get (i := j) (d := strD (stAt ls j)) (by rw [List.getElem?_map,List.getElem?_eq_getElem hj,stAt_get hj];rfl)
   simp only [strD,Rd] at k1
   subst k1
   have := k4 0 (by simp [Value.cells])
   simpa [Value.cells] using this
  exact .inr ⟨b,off,cap,rfl,World.block_lt_of_cell? w _ (hcell 0 (by omega)),hcell⟩
 ·have : ls = [] := List.eq_nil_of_length_eq_zero (by omega)
  subst this
  exact .inl ⟨a,cap,rfl,rfl⟩
mutual
theorem ty_in : ∀ (t : Ty5) {v : Value},okT t -> Rd C w (tyD t) v -> ∃ v0 v1 v2 v3 v4,v = .agg #[v0,v1,v2,v3,v4] ∧ TyIn w t v0 v1 v2 v3 v4
 | .mk k n nm ls ks,v,ho,h => by
  obtain ⟨vs,rfl,u0,r0,rfl,q0,u1,r1,rfl,q1,u2,r2,rfl,q2,u3,r3,rfl,q3,u4,r4,rfl,q4,q5⟩ := h
  simp only [RdL] at q5
  subst q5
  simp only [Rd] at q0 q1 q2
  subst q0 q1 q2
  refine ⟨_,_,_,_,_,rfl,rfl,rfl,⟨rfl,ho.1⟩,strs_in q3 ho.2.1,?_⟩
  obtain ⟨⟨a,cap,rfl,hc1,hc2⟩,hx,_⟩ := q4
  have hl : (tysD ks).length = ks.length := by simp [tysD_map]
  rw [hl] at hc1 hx ⊢
  refine ⟨by omega,?_⟩
  by_cases h0 : 0 < ks.length
  ·obtain ⟨b,off,cap',hv,_,hr⟩ := hx h0
   simp at hv
   obtain ⟨rfl,rfl⟩ := hv
   exact .inr ⟨b,off,cap,rfl,tys_in ks b off ho.2.2 hr⟩
  ·have : ks = [] := List.eq_nil_of_length_eq_zero (by omega)
   subst this
   exact .inl ⟨a,cap,rfl,rfl⟩
theorem tys_in : ∀ (ks : List Ty5) (b off : Nat),okT.okL ks -> RdE C w 5 (tysD ks) (fun i => w.cell? ⟨b,off + i,none⟩) -> RowIn w b off ks
 | [],_,_,_,_ => trivial
 | t :: r,b,off,ho,⟨⟨u,k1,k2,_,k4⟩,hr⟩ => by
  obtain ⟨v0,v1,v2,v3,v4,rfl,hT⟩ := ty_in t ho.1 k1
  refine ⟨⟨v0,v1,v2,v3,v4,?_,?_,?_,?_,?_,hT⟩,tys_in r b (off + 5) ho.2 (by simpa only [Nat.add_assoc] using hr)⟩
  ·simpa [Value.cells] using k4 0 (by simp [Value.cells])
  ·simpa [Value.cells] using k4 1 (by simp [Value.cells])
  ·simpa [Value.cells] using k4 2 (by simp [Value.cells])
  ·simpa [Value.cells] using k4 3 (by simp [Value.cells])
  ·simpa [Value.cells] using k4 4 (by simp [Value.cells])
end
end
def allS (w : World) : Nat -> Nat -> Prop := fun b _ => b < w.heap.size
theorem cp_raw {P : Program} {k : FuncId} {ds : List D} {u : Value} (hc : Callable P k) (h : ∀ (S : Nat -> Nat -> Prop) (w : World) (args : List Value),RdL (bare S) w ds args -> Calls P k args.toArray w fun e w' => e = .returned u ∧ Below w.heap.size w w') : CP P k ds (· = .raw u) := by
 refine ⟨hc,fun S w args hS r => (h S w args r).mono ?_⟩
 rintro e w' ⟨rfl,hb⟩
 exact ⟨u,S,.raw u,rfl,rfl,hb,fun _ _ h => h,fun b o hs => ⟨Nat.lt_of_lt_of_le (hS b o hs) hb.size,fun _ => hs⟩,rfl⟩
theorem callable_at {k : FuncId} {fn : Func} {c : Code} (hf : Tryz.prog.funcs[k]? = some fn) (hn : (fn.name == "runtime.NumGoroutine") = false) (hb : fn.body = some c) : Callable Tryz.prog k := ⟨fn, c, hf, hn, hb⟩
theorem rdL_one {C : Cx} {w : World} {d : D} {args : List Value} (r : RdL C w [d] args) : ∃ v,args = [v] ∧ Rd C w d v := by
 obtain ⟨v,rest,rfl,h1,h2⟩ := r
 simp only [RdL] at h2
 subst h2
 exact ⟨v,rfl,h1⟩
theorem rdL_two {C : Cx} {w : World} {d d' : D} {args : List Value} (r : RdL C w [d,d'] args) : ∃ v v',args = [v,v'] ∧ Rd C w d v ∧ Rd C w d' v' := by
 obtain ⟨v,rest,rfl,h1,h2⟩ := r
 obtain ⟨v',rfl,h3⟩ := rdL_one h2
 exact ⟨v,v',rfl,h1,h3⟩
end Go.Proofs.YtkoabcncdjmoeaaGreatDoor
namespace Go.Proofs.YtkoabcncdjmoeaaGreatDoor.Pv
open Go Go.RowKit Go.WideShapes
def leavesD : D -> List D
 | .agg ds => ds
 | d => [d]
mutual
def bulkD : D -> Nat
 | .raw (.string s) => s.size + 1
 | .sl _ _ ds => bulkL ds + 1
 | .agg ds => bulkL ds + 1
 | _ => 0
def bulkL : List D -> Nat
 | [] => 0
 | d :: r => bulkD d + bulkL r
end
theorem bulkL_app : ∀ a b : List D,bulkL (a ++ b) = bulkL a + bulkL b
 | [],b => by simp [bulkL]
 | d :: r,b => by simp only [List.cons_append,bulkL,bulkL_app r b];omega
theorem bulk_one (e : D) : bulkL [e] = bulkD e := by simp only [bulkL,Nat.add_zero]
theorem bulk_leaves (d : D) : bulkL (leavesD d) ≤ bulkD d := by
 cases d with
 | agg ds =>
  have h : bulkD (.agg ds) = bulkL ds + 1 := by simp only [bulkD]
  rw [h]
  exact Nat.le_succ _
 | _ => exact Nat.le_of_eq (bulk_one _)
theorem bulkL_pt {H : Type} : ∀ (ds : List D) (es : List (DataW H)),ds.length = es.length -> (∀ (i : Nat) (d : D) (e : DataW H),ds[i]? = some d -> es[i]? = some e -> bulkD d ≤ Rows.uptoBulk e) -> bulkL ds ≤ Rows.uptoBulkAll es
 | [],_,_,_ => by simp [bulkL]
 | d :: ds,[],h,_ => by simp at h
 | d :: ds,e :: es,h,hp => by
  have h0 := hp 0 d e rfl rfl
  have h1 := bulkL_pt ds es (by simpa using h) fun i d' e' h1 h2 => hp (i + 1) d' e' (by simpa using h1) (by simpa using h2)
  simp only [bulkL,Rows.uptoBulkAll]
  omega
def Has (P : Program) : Nat -> TypeId -> D -> Prop
 | 0,_,_ => False
 | n + 1,t,d => match P.underlying t with
  | some (.int k) => ∃ m,d = .raw (.int k m) ∧ (Lit.int k m).wf = true
  | some .bool => ∃ b,d = .raw (.bool b)
  | some .string => ∃ s : ByteArray,d = .raw (.string s) ∧ s.size ≤ maxLen
  | some (.slice e) => ∃ ds,d = .sl none (P.cellsOf e) ds ∧ ds.length ≤ maxLen ∧ ∀ x ∈ ds,Has P n e x
  | some (.struct fs) => ∃ xs : List D,d = .agg (xs.flatMap leavesD) ∧ xs.length = fs.size ∧ ∀ (i : Nat) (f : Field) (x : D),fs[i]? = some f -> xs[i]? = some x -> Has P n f.type x
  | _ => False
def tiles (P : Program) : Nat -> List Field -> Nat -> Bool
 | off,[],total => off == total
 | off,f :: r,total => f.offset == off && tiles P (off + P.cellsOf f.type) r total
structure Kinds (P : Program) (T : TypeId -> Prop) : Prop where
 ok : ∀ t,T t -> match P.underlying t with
  | some (.int _) | some .bool | some .string => P.cellsOf t = 1
  | some (.slice e) => P.cellsOf t = 1 ∧ T e ∧ 0 < P.cellsOf e
  | some (.struct fs) => tiles P 0 fs.toList (P.cellsOf t) = true ∧ ∀ f ∈ fs.toList,T f.type
  | _ => False
section
variable {P : Program} {T : TypeId -> Prop} {H : Type} {enc : TypeId × Value -> H} {w : World} {base : Nat} {spare : Nat -> Bool} {held : Bool}
theorem parts_rd {C : Cx} {n : Nat} : ∀ (fs : List Field) (zs : List (DataW H)) (cs : List Value) (off total : Nat),cs.length = total -> tiles P off fs total = true -> off ≤ total ->
  (∀ (i : Nat) (f : Field),fs[i]? = some f -> ∃ y,zs[i]? = some y.1 ∧ DataW.trod enc P w base spare held n f.type ((cs.drop f.offset).take (P.cellsOf f.type)) = some y) ->
  (∀ (f : Field),f ∈ fs -> ∀ cs' y,DataW.trod enc P w base spare held n f.type cs' = some y -> ∃ d,Has P n f.type d ∧ RdL C w (leavesD d) cs' ∧ (leavesD d).all leafD = true ∧ bulkD d ≤ Rows.uptoBulk y.1) ->
  ∃ xs : List D,xs.length = fs.length ∧ RdL C w (xs.flatMap leavesD) (cs.drop off) ∧ (xs.flatMap leavesD).all leafD = true ∧ (∀ (i : Nat) (f : Field) (x : D),fs[i]? = some f -> xs[i]? = some x -> Has P n f.type x) ∧ bulkL (xs.flatMap leavesD) ≤ Rows.uptoBulkAll zs
 | [],zs,cs,off,total,hl,ht,hle,_,_ => by
  simp only [tiles,beq_iff_eq] at ht
  exact ⟨[],rfl,by rw [List.drop_eq_nil_of_le (by omega)];rfl,rfl,fun i f x h => by simp at h,by simp [bulkL]⟩
 | f :: r,zs,cs,off,total,hl,ht,hle,hy,hr => by
  simp only [tiles,Bool.and_eq_true,beq_iff_eq] at ht
  obtain ⟨h1,h2⟩ := ht
  obtain ⟨y,hz0,hy0⟩ := hy 0 f rfl
  obtain ⟨zr,rfl⟩ : ∃ zr,zs = y.1 :: zr := by
   cases zs with
   | nil => simp at hz0
   | cons z zr => simp at hz0;exact ⟨zr,by rw [hz0]⟩
  obtain ⟨d,k1,k2,k3,k5⟩ := hr f (List.mem_cons_self ..) _ y hy0
  have hle2 : off + P.cellsOf f.type ≤ total := by
   have : ∀ (l : List Field) (o : Nat),tiles P o l total = true -> o ≤ total := by
    intro l
    induction l with
    | nil => intro o h;simp only [tiles,beq_iff_eq] at h;omega
    | cons g l ih =>
     intro o h
     simp only [tiles,Bool.and_eq_true,beq_iff_eq] at h
     have := ih _ h.2
     omega
   exact this r _ h2
  obtain ⟨xs,j1,j2,j3,j4,j5⟩ := parts_rd (C := C) r zr cs (off + P.cellsOf f.type) total hl h2 hle2 (fun i g hg => hy (i + 1) g (by simpa using hg)) (fun g hg => hr g (List.mem_cons_of_mem _ hg))
  refine ⟨d :: xs,by simp [j1],?_,?_,fun i g x hg hx => ?_,?_⟩
  ·have e : cs.drop off = (cs.drop off).take (P.cellsOf f.type) ++ cs.drop (off + P.cellsOf f.type) := by
    rw [← List.drop_drop,List.take_append_drop]
   rw [e,List.flatMap_cons]
   rw [h1] at k2
   exact k2.app j2
  ·rw [List.flatMap_cons,List.all_append,k3,j3]
   try rfl
  ·cases i with
   | zero =>
    simp at hg hx
    subst hg hx
    exact k1
   | succ i => exact j4 i g x (by simpa using hg) (by simpa using hx)
  ·have := bulk_leaves d
   rw [List.flatMap_cons,bulkL_app]
   simp only [Rows.uptoBulkAll]
   omega
theorem list_of {R : Nat -> D -> Prop} : ∀ (len : Nat),(∀ i,i < len -> ∃ d,R i d) -> ∃ ds : List D,ds.length = len ∧ ∀ (i : Nat) (d : D),ds[i]? = some d -> R i d
 | 0,_ => ⟨[],rfl,fun i d h => by simp at h⟩
 | m + 1,each => by
  obtain ⟨ds,h1,h2⟩ := list_of m fun i hi => each i (by omega)
  obtain ⟨d,h3⟩ := each m (by omega)
  refine ⟨ds ++ [d],by simp [h1],fun i x hx => ?_⟩
  by_cases him : i < ds.length
  ·rw [List.getElem?_append_left him] at hx
   exact h2 i x hx
  ·rw [List.getElem?_append_right (by omega)] at hx
   have h0 : i - ds.length = 0 := by
    have := (List.getElem?_eq_some_iff.1 hx).1
    simp at this
    omega
   rw [h0] at hx
   simp at hx
   subst hx
   have : i = m := by omega
   subst this
   exact h3
theorem trod_hasb (K : Kinds P T) : ∀ (fuel : Nat) (t : TypeId) (cs : List Value) (x : DataW H × List MemPlace),T t -> DataW.trod enc P w base spare held fuel t cs = some x ->
  ∃ d,Has P fuel t d ∧ RdL (bare (allS w)) w (leavesD d) cs ∧ (leavesD d).all leafD = true ∧ bulkD d ≤ Rows.uptoBulk x.1 := by
 intro fuel
 induction fuel with
 | zero => intro t cs x _ h;simp [DataW.trod] at h
 | succ n ih =>
  intro t cs x hT h
  have hk := K.ok t hT
  cases hu : P.underlying t with
  | none => rw [hu] at hk;exact hk.elim
  | some u =>
   rw [hu] at hk
   cases u with
   | int k =>
    obtain ⟨m,rfl,_,hw⟩ := DataW.trod_int hu h
    exact ⟨.raw (.int k m),by simp only [Has,hu];exact ⟨m,rfl,hw⟩,⟨_,_,rfl,rfl,rfl⟩,rfl,Nat.zero_le _⟩
   | bool =>
    obtain ⟨b,rfl,_⟩ := DataW.trod_bool hu h
    exact ⟨.raw (.bool b),by simp only [Has,hu];exact ⟨b,rfl⟩,⟨_,_,rfl,rfl,rfl⟩,rfl,Nat.zero_le _⟩
   | string =>
    obtain ⟨s,rfl,rfl,hs⟩ := DataW.trod_string hu h
    exact ⟨.raw (.string s),by simp only [Has,hu];exact ⟨s,rfl,hs⟩,⟨_,_,rfl,rfl,rfl⟩,rfl,by simp only [bulkD,Rows.uptoBulk];rw [Array.length_toList];exact Nat.le_refl _⟩
   | slice e =>
    simp only at hk
    rcases DataW.trod_slice hu h with ⟨rfl,rfl⟩ | ⟨a,len,cap,elems,rest,n',hn',rfl,rfl,hb,hl,hm,hel,hcell,_,_⟩
    ·exact ⟨.sl none (P.cellsOf e) [],by simp only [Has,hu];exact ⟨[],rfl,Nat.zero_le _,fun x h => by cases h⟩,⟨_,_,rfl,⟨⟨none,0,rfl,Nat.le_refl _,Nat.zero_le _⟩,fun h => absurd h (by simp),fun id e => by cases e⟩,rfl⟩,rfl,by simp [bulkD,bulkL,Rows.uptoBulk]⟩
    ·obtain rfl : n = n' := by omega
     have each : ∀ i,i < len -> ∃ d,Has P n e d ∧ ∃ cs',w.cells? base (a.add (i * P.cellsOf e)) (P.cellsOf e) = some cs' ∧ RdL (bare (allS w)) w (leavesD d) cs' ∧ (leavesD d).all leafD = true ∧ ∀ e,(elems.map (·.1))[i]? = some e -> bulkD d ≤ Rows.uptoBulk e := fun i hi => by
      have hc := hcell i hi
      rw [List.getElem?_eq_getElem (by omega)] at hc
      obtain ⟨cs',h1,h2⟩ := Option.bind_eq_some_iff.1 hc
      obtain ⟨d,k1,k2,k3,k4⟩ := ih e cs' _ hk.2.1 h2
      refine ⟨d,k1,cs',h1,k2,k3,fun y hy => ?_⟩
      rw [List.getElem?_map,List.getElem?_eq_getElem (by omega)] at hy
      cases hy
      exact k4
     obtain ⟨ds,hds,hget⟩ : ∃ ds : List D,ds.length = len ∧ ∀ i d,ds[i]? = some d -> Has P n e d ∧ ∃ cs',w.cells? base (a.add (i * P.cellsOf e)) (P.cellsOf e) = some cs' ∧ RdL (bare (allS w)) w (leavesD d) cs' ∧ (leavesD d).all leafD = true ∧ ∀ e,(elems.map (·.1))[i]? = some e -> bulkD d ≤ Rows.uptoBulk e := by
      exact list_of len each
     have hall : ∀ x ∈ ds,Has P n e x := fun x hx => by
      obtain ⟨i,hi,rfl⟩ := List.getElem_of_mem hx
      exact (hget i _ (List.getElem?_eq_getElem hi)).1
     refine ⟨.sl none (P.cellsOf e) ds,by simp only [Has,hu];exact ⟨ds,rfl,by omega,hall⟩,⟨_,_,rfl,⟨⟨some a,cap,by rw [hds],by omega,hm⟩,fun h0 => ?_,fun id e => by cases e⟩,rfl⟩,rfl,?_⟩
     rotate_left
     ·have := bulkL_pt ds (elems.map (·.1)) (by rw [List.length_map];omega) fun i d y h1 h2 => by
       obtain ⟨_,_,_,_,_,k⟩ := hget i d h1
       exact k y h2
      simp only [bulkD,Rows.uptoBulk]
      omega
     have hcsz : 0 < P.cellsOf e := hk.2.2
     obtain ⟨b,off,spot⟩ := a
     have hspot : spot = none := by
      obtain ⟨d,k1,cs',k2,k3,k4,_⟩ := each 0 (by omega)
      obtain ⟨_,hcl,hat⟩ := World.cells?_some k2
      have := hat 0 hcsz
      rw [List.getElem?_eq_getElem (by omega)] at this
      simpa [Addr.add] using World.cell?_spot this
     subst hspot
     have hadd : ∀ i : Nat,(⟨b,off,none⟩ : Addr).add i = ⟨b,off + i,none⟩ := fun i => by
      unfold Addr.add
      by_cases h : i = 0 <;> simp [h]
     have hcells : ∀ i,i < len -> ∀ j,j < P.cellsOf e -> w.cell? ⟨b,off + i * P.cellsOf e + j,none⟩ ≠ none := fun i hi j hj => by
      obtain ⟨d,k1,cs',k2,k3,k4,_⟩ := each i hi
      obtain ⟨_,hcl,hat⟩ := World.cells?_some k2
      have := hat j hj
      rw [Go.Deep.add_add,hadd,List.getElem?_eq_getElem (by omega),← Nat.add_assoc] at this
      rw [this]
      simp
     have hblk : b < w.heap.size := by
      have := hcells 0 (by omega) 0 hcsz
      cases hc : w.cell? ⟨b,off + 0 * P.cellsOf e + 0,none⟩ with
      | none => exact absurd hc this
      | some v => exact World.block_lt_of_cell? w _ hc
     refine ⟨b,off,cap,by rw [hds],fun i hi => hblk,RdE.mk fun i d hd => ?_⟩
     obtain ⟨k1,cs',k2,k3,k4,_⟩ := hget i d hd
     obtain ⟨_,hcl,hat⟩ := World.cells?_some k2
     have hcj : ∀ j (hj : j < cs'.length),w.cell? ⟨b,off + (i * P.cellsOf e + j),none⟩ = some cs'[j] := fun j hj => by
      have := hat j (by omega)
      rw [Go.Deep.add_add,hadd,List.getElem?_eq_getElem hj] at this
      exact this
     have h1c := k3.leaves k4
     by_cases hag : ∃ es,d = .agg es
     ·obtain ⟨es,rfl⟩ := hag
      refine ⟨.agg cs'.toArray,⟨cs',rfl,k3⟩,by simp [Value.cells,hcl],fun c hc => h1c c (by simpa [Value.cells] using hc),fun j hj => ?_⟩
      simp only [Value.cells] at hj ⊢
      simpa using hcj j (by simpa using hj)
     ·have hl1 : leavesD d = [d] := by
       cases d <;> first | rfl | exact absurd ⟨_,rfl⟩ hag
      rw [hl1] at k3
      obtain ⟨v,rest',rfl,k5,k6⟩ := k3
      simp only [RdL] at k6
      subst k6
      have ho : v.oneCell' = true := h1c v (by simp)
      have hvc : v.cells = #[v] := by
       cases v <;> first | rfl | cases ho
      refine ⟨v,k5,by rw [hvc,← hcl];rfl,fun c hc => by rw [hvc] at hc;simp at hc;rw [hc];exact ho,fun j hj => ?_⟩
      have : j = 0 := by rw [hvc] at hj;simp at hj;omega
      subst this
      have := hcj 0 (by simp)
      simpa [hvc] using this
   | struct fs =>
    simp only at hk
    obtain ⟨xs,n',hn',rfl,hlen,hxl,hf⟩ := DataW.trod_struct hu h
    obtain rfl : n = n' := by omega
    obtain ⟨ys,h1,h2,h3,h4,h5⟩ := parts_rd (C := bare (allS w)) (enc := enc) (P := P) (w := w) (base := base) (spare := spare) (held := held) (n := n) fs.toList (xs.map (·.1)) cs 0 (P.cellsOf t) hlen hk.1 (Nat.zero_le _)
     (fun i f hi => by
      have hi' : fs[i]? = some f := by simpa using hi
      have := hf i f hi'
      have hlt : i < fs.size := (Array.getElem?_eq_some_iff.1 hi').1
      rw [List.getElem?_eq_getElem (by omega)] at this
      exact ⟨_,by rw [List.getElem?_map,List.getElem?_eq_getElem (by omega)];rfl,this⟩)
     (fun f hfm cs' y hy => ih f.type cs' y (hk.2 f hfm) hy)
    refine ⟨.agg (ys.flatMap leavesD),by simp only [Has,hu];exact ⟨ys,rfl,by simpa using h1,fun i f x hi hx => h4 i f x (by simpa using hi) hx⟩,by simpa [leavesD] using h2,h3,by simp only [bulkD,Rows.uptoBulk];omega⟩
   | _ => exact hk.elim
theorem trodAll_of {v : Value} {t : TypeId} {d : DataW H} {p : List MemPlace} (h : DataW.Trod enc P w base spare held t v d p) : ∃ fuel,DataW.trod enc P w base spare held fuel t v.cells.toList = some (d,p) := h
theorem param_hasb (K : Kinds P T) {t : TypeId} (hT : T t) {r : Reach} {b0 : Nat} {v : Value} {d : DataW H} {p : List MemPlace} (hv : Value.okWide P w r b0 t v) (h : DataW.Trod enc P w base spare held t v d p) : ∃ n x,Has P n t x ∧ Rd (bare (allS w)) w x v ∧ bulkD x ≤ Rows.uptoBulk d := by
 obtain ⟨fuel,hf⟩ := trodAll_of h
 obtain ⟨x,h1,h2,h3,h5⟩ := trod_hasb K fuel t _ _ hT hf
 refine ⟨fuel,x,h1,?_,h5⟩
 have one : ∀ u : Value,v.cells = #[u] -> v = u -> (∀ ds,x ≠ .agg ds) -> Rd (bare (allS w)) w x v := fun u hu hvu hx => by
  have hl : leavesD x = [x] := by cases x <;> first | rfl | exact absurd rfl (hx _)
  rw [hl,hu] at h2
  obtain ⟨u',r',e,k1,k2⟩ := h2
  simp at e
  rw [hvu,e.1]
  exact k1
 cases fuel with
 | zero => simp [Has] at h1
 | succ n =>
  have hk := K.ok t hT
  simp only [Has] at h1
  cases hu : P.underlying t with
  | none => rw [hu] at h1;exact h1.elim
  | some u =>
   rw [hu] at h1
   cases u with
   | int k =>
    obtain ⟨m,rfl⟩ := okWide_int hu hv
    obtain ⟨_,rfl,_⟩ := h1
    exact one _ rfl rfl fun ds => by simp
   | bool =>
    obtain ⟨m,rfl⟩ := okWide_bool hu hv
    obtain ⟨_,rfl⟩ := h1
    exact one _ rfl rfl fun ds => by simp
   | string =>
    obtain ⟨m,rfl⟩ := okWide_string hu hv
    obtain ⟨_,rfl,_⟩ := h1
    exact one _ rfl rfl fun ds => by simp
   | slice e =>
    obtain ⟨a,l,c,rfl⟩ := okWide_slice hu hv
    obtain ⟨_,rfl,_⟩ := h1
    exact one _ rfl rfl fun ds => by simp
   | struct fs =>
    obtain ⟨cs,rfl,_⟩ := okWide_struct hu hv
    obtain ⟨xs,rfl,_⟩ := h1
    exact ⟨cs.toList,by simp,h2⟩
   | _ => exact h1.elim
theorem param_has (K : Kinds P T) {t : TypeId} (hT : T t) {r : Reach} {b0 : Nat} {v : Value} {d : DataW H} {p : List MemPlace} (hv : Value.okWide P w r b0 t v) (h : DataW.Trod enc P w base spare held t v d p) : ∃ n x,Has P n t x ∧ Rd (bare (allS w)) w x v := by
 obtain ⟨n,x,h1,h2,_⟩ := param_hasb K hT hv h
 exact ⟨n,x,h1,h2⟩
theorem Has.int {n : Nat} {t : TypeId} {k : IntKind} {d : D} (h : Has P n t d) (hu : P.underlying t = some (.int k)) : ∃ m,d = .raw (.int k m) ∧ (Lit.int k m).wf = true := by
 cases n with
 | zero => exact h.elim
 | succ n => simpa only [Has,hu] using h
theorem Has.bool {n : Nat} {t : TypeId} {d : D} (h : Has P n t d) (hu : P.underlying t = some .bool) : ∃ b,d = .raw (.bool b) := by
 cases n with
 | zero => exact h.elim
 | succ n => simpa only [Has,hu] using h
theorem Has.str {n : Nat} {t : TypeId} {d : D} (h : Has P n t d) (hu : P.underlying t = some .string) : ∃ s : ByteArray,d = .raw (.string s) ∧ s.size ≤ maxLen := by
 cases n with
 | zero => exact h.elim
 | succ n => simpa only [Has,hu] using h
theorem Has.slice {n : Nat} {t e : TypeId} {d : D} (h : Has P n t d) (hu : P.underlying t = some (.slice e)) : ∃ m ds,n = m + 1 ∧ d = .sl none (P.cellsOf e) ds ∧ ds.length ≤ maxLen ∧ ∀ x ∈ ds,Has P m e x := by
 cases n with
 | zero => exact h.elim
 | succ n =>
  simp only [Has,hu] at h
  obtain ⟨ds,h1,h2,h3⟩ := h
  exact ⟨n,ds,rfl,h1,h2,h3⟩
theorem Has.struct {n : Nat} {t : TypeId} {fs : Array Field} {d : D} (h : Has P n t d) (hu : P.underlying t = some (.struct fs)) : ∃ (m : Nat) (xs : List D),n = m + 1 ∧ d = .agg (xs.flatMap leavesD) ∧ xs.length = fs.size ∧ ∀ (i : Nat) (f : Field) (x : D),fs[i]? = some f -> xs[i]? = some x -> Has P m f.type x := by
 cases n with
 | zero => exact h.elim
 | succ n =>
  simp only [Has,hu] at h
  obtain ⟨xs,h1,h2,h3⟩ := h
  exact ⟨n,xs,rfl,h1,h2,h3⟩
end
end Go.Proofs.YtkoabcncdjmoeaaGreatDoor.Pv
namespace Go.Proofs.YtkoabcncdjmoeaaGreatDoor
open Go.RowKit Pv
theorem el_strs : ElemIs (TT ()) 23 9 1 16 := by unfold ElemIs;kernel_rfl
theorem el_tys : ElemIs (TT ()) 24 26 5 80 := by unfold ElemIs;kernel_rfl
end Go.Proofs.YtkoabcncdjmoeaaGreatDoor
namespace Go.Proofs.YtkoabcncdjmoeaaGreatDoor.Pv
open Go Go.RowKit
mutual
theorem renD_id : ∀ d : D,renD id d = d
 | .any => rfl
 | .raw _ => rfl
 | .sln _ => rfl
 | .agg ds => by simp only [renD,renL_id ds]
 | .tup ds => by simp only [renD,renL_id ds]
 | .sl tag sz ds => by simp only [renD,renL_id ds,Option.map_id_fun,id]
 | .bx _ _ => rfl
 | .ms _ _ _ => rfl
 | .mp _ _ _ _ => rfl
 | .pe d off => by simp only [renD,renD_id d]
 | .fn g a b => by simp only [renD,renL_id a,renL_id b]
 | .ifc t d => by simp only [renD,renD_id d]
theorem renL_id : ∀ ds : List D,renL id ds = ds
 | [] => rfl
 | d :: ds => by simp only [renL,renD_id d,renL_id ds]
end
theorem renC_id (c : Cell) : renC id c = c := by
 cases c <;> simp only [renC,renL_id]
theorem idxOf_id (j : Nat) : ∀ n,idxOf id j n = if j < n then some j else none
 | 0 => rfl
 | n + 1 => by
  simp only [idxOf,id,idxOf_id j n]
  by_cases h : n = j
  ·subst h;simp
  ·rw [if_neg h]
   by_cases h2 : j < n
   ·rw [if_pos h2,if_pos (by omega)]
   ·rw [if_neg h2,if_neg (by omega)]
theorem mergeH_id {h0 h0' rest : H} (hl : h0'.length = h0.length) : mergeH id (h0 ++ rest) h0' = h0' ++ rest := by
 apply List.ext_getElem?
 intro i
 unfold mergeH
 rw [List.getElem?_map]
 by_cases hi : i < (h0 ++ rest).length
 ·rw [List.getElem?_range hi]
  simp only [Option.map_some,idxOf_id]
  by_cases h2 : i < h0'.length
  ·rw [if_pos h2,List.getElem?_append_left h2]
   simp only [renC_id,List.getD_eq_getElem?_getD,List.getElem?_eq_getElem h2,Option.getD_some]
  ·rw [if_neg h2]
   simp only [List.getD_eq_getElem?_getD,List.getElem?_eq_getElem hi,Option.getD_some]
   rw [← List.getElem?_eq_getElem hi,List.getElem?_append_right (by omega),List.getElem?_append_right (by omega),hl]
 ·rw [List.getElem?_eq_none (by simpa using hi),List.getElem?_eq_none (by rw [List.length_append] at *;omega)]
  try rfl
theorem CW.ext {P : Program} {k : FuncId} {ds : List D} {h0 : H} {Q0 : D -> H -> Prop} (c : CW P k ds h0 Q0) (rest : H) (hid : idbL h0.length ds = true) (hcells : h0.all (cellIdb h0.length) = true)
  (hq : ∀ d h',Q0 d h' -> h'.length = h0.length ∧ idb h0.length d = true ∧ h'.all (cellIdb h0.length) = true) : CW P k ds (h0 ++ rest) fun d h' => ∃ h0',Q0 d h0' ∧ h' = h0' ++ rest :=
 (c.frame (h := h0 ++ rest) id (renL_id ds).symm hid hcells (fun _ _ _ _ e => e) (fun i hi => by
  show _ = (h0 ++ rest)[i]?
  rw [List.getElem?_append_left hi]
  cases h0[i]? with
  | none => rfl
  | some c => simp only [Option.map_some,renC_id]) hq).mono fun d h' ⟨d0,h0',q,e1,e2⟩ => ⟨h0',by rw [e1,renD_id];exact q,by rw [e2];exact mergeH_id (hq _ _ q).1⟩
section
variable {C : Cx} {h : H} {w : World}
end
def Cv (d : D) (h : H) (d' : D) (h' : H) : Prop := ∀ (C : Cx) (w : World) (v : Value),Sim C h w -> Rd C w d v -> ∃ C',Fw C w C' w ∧ Sim C' h' w ∧ Rd C' w d' v
def endOf (b : Bool) (v : Value) : Ending := match b with
 | true => .returned v
 | false => .panicked [{ v,recovered := false }]
def CX (P : Program) (k : FuncId) (ds : List D) (h : H) (Q : Bool -> D -> H -> Prop) : Prop :=
 Callable P k ∧ ∀ (C : Cx) (w : World) (args : List Value),Sim C h w -> RdL C w ds args ->
  Calls P k args.toArray w fun e w' => ∃ b v C' d h',e = endOf b v ∧ Q b d h' ∧ Fw C w C' w' ∧ Sim C' h' w' ∧ Rd C' w' d v
section
variable {P : Program}
theorem CX.mono {k : FuncId} {ds : List D} {h : H} {Q R : Bool -> D -> H -> Prop} (c : CX P k ds h Q) (hq : ∀ b d h',Q b d h' -> R b d h') : CX P k ds h R :=
 ⟨c.1,fun C w args s r => (c.2 C w args s r).mono fun e w' ⟨b,v,C',d,h',h1,h2,h3,h4,h5⟩ => ⟨b,v,C',d,h',h1,hq b d h' h2,h3,h4,h5⟩⟩
theorem CW.cx {k : FuncId} {ds : List D} {h : H} {Q : D -> H -> Prop} {R : Bool -> D -> H -> Prop} (c : CW P k ds h Q) (hq : ∀ d h',Q d h' -> R true d h') : CX P k ds h R :=
 ⟨c.1,fun C w args s r => (c.2 C w args s r).mono fun e w' ⟨v,C',d,h',h1,h2,h3,h4,h5⟩ => ⟨true,v,C',d,h',h1,hq d h' h2,h3,h4,h5⟩⟩
theorem CX.cw {k : FuncId} {ds : List D} {h : H} {Q : Bool -> D -> H -> Prop} {R : D -> H -> Prop} (c : CX P k ds h Q) (hq : ∀ b d h',Q b d h' -> b = true ∧ R d h') : CW P k ds h R :=
 ⟨c.1,fun C w args s r => (c.2 C w args s r).mono fun e w' ⟨b,v,C',d,h',h1,h2,h3,h4,h5⟩ => by
  obtain ⟨rfl,h6⟩ := hq b d h' h2
  exact ⟨v,C',d,h',h1,h6,h3,h4,h5⟩⟩
theorem CX.conv {k : FuncId} {ds : List D} {h : H} {Q R : Bool -> D -> H -> Prop} (c : CX P k ds h Q) (hq : ∀ b d h',Q b d h' -> ∃ d' h'',Cv d h' d' h'' ∧ R b d' h'') : CX P k ds h R :=
 ⟨c.1,fun C w args s r => (c.2 C w args s r).mono fun e w' ⟨b,v,C',d,h',h1,h2,h3,h4,h5⟩ => by
  obtain ⟨d',h'',k1,k2⟩ := hq b d h' h2
  obtain ⟨C2,f2,s2,r2⟩ := k1 C' w' v h4 h5
  exact ⟨b,v,C2,d',h'',h1,k2,h3.trans f2,s2,r2⟩⟩
theorem CX.weaken {k : FuncId} {ds : List D} {h : H} {Q R : Bool -> D -> H -> Prop} (c : CX P k ds h Q) (hq : ∀ b d h',Q b d h' -> ∃ d',Wk d d' ∧ R b d' h') : CX P k ds h R :=
 c.conv fun b d h' q => by
  obtain ⟨d',k1,k2⟩ := hq b d h' q
  exact ⟨d',h',fun C w v s r => ⟨C,Fw.refl _ _,s,k1 C w v r⟩,k2⟩
theorem CX.gc {k : FuncId} {ds : List D} {h : H} {Q R : Bool -> D -> H -> Prop} (c : CX P k ds h Q) (hq : ∀ b d h',Q b d h' -> idb h.length d = true ∧ (h'.take h.length).all (cellIdb h.length) = true ∧ R b d (h'.take h.length)) : CX P k ds h R := by
 refine ⟨c.1,fun C w args s r => (c.2 C w args s r).mono ?_⟩
 rintro e w' ⟨b,v,C',d,h',h1,h2,f,s',r'⟩
 obtain ⟨k1,k2,k3⟩ := hq b d h' h2
 exact ⟨b,v,C'.cut h.length,d,h'.take h.length,h1,k3,f.cut s.idb s.idl,s'.cut k2,r'.cut d k1⟩
end
structure XCallK (T : TP) (k : FuncId) (ds : List D) (h : H) (K : Bool -> D -> H -> Prop) : Prop where
 out : ∃ Q,CX (T ()) k ds h Q ∧ ∀ b d h',Q b d h' -> K b d h'
section
variable {T : TP}
theorem XCallK.of {k : FuncId} {ds : List D} {h : H} {K : Bool -> D -> H -> Prop} (c : CallK T k ds h (K true)) : XCallK T k ds h K := by
 obtain ⟨Q,c1,hq⟩ := c.out
 exact ⟨fun b d h' => b = true ∧ Q d h',c1.cx fun d h' q => ⟨rfl,q⟩,fun b d h' ⟨hb,q⟩ => hb ▸ hq d h' q⟩
theorem XCallK.one {k : FuncId} {ds es : List D} {h : H} {K : Bool -> D -> H -> Prop} {d : D} (c : CP (T ()) k es (· = d)) (hds : pureL ds = some es) (hd : pureD d = some d) (hk : K true d h) : XCallK T k ds h K := .of (.one c hds hd hk)
theorem XCallK.mut {k : FuncId} {ds : List D} {h : H} {K : Bool -> D -> H -> Prop} {Q : D -> H -> Prop} (c : CW (T ()) k ds h Q) (hk : ∀ d h',Q d h' -> K true d h') : XCallK T k ds h K := .of (.mut c hk)
theorem XCallK.both {k : FuncId} {ds : List D} {h : H} {K Q : Bool -> D -> H -> Prop} (c : CX (T ()) k ds h Q) (hk : ∀ b d h',Q b d h' -> K b d h') : XCallK T k ds h K := ⟨Q,c,hk⟩
end
structure MapIs (keys : List ByteArray) (o : Obj) : Prop where
 out : ∃ es clock,o = .map es clock ∧ es.toList.map (fun e => (e.key,e.val)) = keys.map fun k => (Value.string k,Value.agg #[])
theorem bytes_beq (a b : ByteArray) : (a == b) = decide (a = b) := by
 have e : (a == b) = (a.data == b.data) := by cases a;cases b;rfl
 rw [e]
 by_cases h : a = b
 ·subst h
  simp
 ·rw [decide_eq_false h]
  exact beq_eq_false_iff_ne.2 fun h' => h (by cases a;cases b;simp only at h';rw [h'])
theorem find_str {s : ByteArray} : ∀ (es : List MapEntry) (keys : List ByteArray) (i : Nat),es.map (fun e => (e.key,e.val)) = keys.map (fun k => (Value.string k,Value.agg #[])) ->
  (s ∈ keys -> ∃ j,Instr.findNow .string (.string s) es i = some (some (j,.agg #[]))) ∧ (s ∉ keys -> Instr.findNow .string (.string s) es i = some none)
 | [],[],_,_ => ⟨fun h => by simp at h,fun _ => rfl⟩
 | [],_ :: _,_,h => by simp at h
 | _ :: _,[],_,h => by simp at h
 | e :: es,k :: keys,i,h => by
  simp only [List.map_cons,List.cons.injEq,Prod.mk.injEq] at h
  obtain ⟨⟨h1,h2⟩,h3⟩ := h
  obtain ⟨k1,k2⟩ := find_str (s := s) es keys (i + 1) h3
  have e0 : Instr.findNow .string (.string s) (e :: es) i = if s = k then some (some (i,.agg #[])) else Instr.findNow .string (.string s) es (i + 1) := by
   rw [Instr.findNow]
   simp only [h1,h2,Instr.sameNow,bytes_beq]
   by_cases hs : s = k
   ·rw [decide_eq_true hs,if_pos hs]
   ·rw [decide_eq_false hs,if_neg hs]
  refine ⟨fun hm => ?_,fun hm => ?_⟩
  ·rw [e0]
   by_cases hs : s = k
   ·exact ⟨i,if_pos hs⟩
   ·rw [if_neg hs]
    exact k1 ((List.mem_cons.1 hm).resolve_left hs)
  ·rw [e0,if_neg (fun hs => hm (by simp [hs]))]
   exact k2 fun hk => hm (List.mem_cons_of_mem _ hk)
section
variable {P : Program} {C : Cx} {h : H} {w : World}
theorem run_check_str {kt : TypeId} (hk : P.underlying kt = some .string) (e : Bool) (s : ByteArray) : (Instr.checkKey e 10000 kt (.string s)).run P w = .ok () w := by
 unfold Instr.checkKey
 simp [run_underlying hk]
theorem run_look {t kt et b : Nat} {s : ByteArray} {keys : List ByteArray} {i : TypeInfo} (ht : P.underlying t = some (.map kt et)) (hk : P.underlying kt = some .string) (hi : P.info? et = some i) (hz : i.zero = some (.agg #[])) {o : Obj} (hb : w.heap[b]? = some o) (hm : MapIs keys o) :
  (s ∈ keys -> (Instr.lookup t (.map (some b)) (.string s) true).run P w = .ok (.tuple #[.agg #[],.bool true]) w) ∧ (s ∉ keys -> (Instr.lookup t (.map (some b)) (.string s) true).run P w = .ok (.tuple #[.agg #[],.bool false]) w) := by
 obtain ⟨es,clock,rfl,he⟩ := hm.out
 obtain ⟨k1,k2⟩ := find_str (s := s) es.toList keys 0 he
 refine ⟨fun hs => ?_,fun hs => ?_⟩
 ·obtain ⟨j,hj⟩ := k1 hs
  simp [Instr.lookup,run_underlying ht,MapKept.run_getObj_map hb,run_check_str hk,Instr.findKey,run_underlying hk,hj]
 ·simp [Instr.lookup,run_underlying ht,MapKept.run_getObj_map hb,run_check_str hk,Instr.findKey,run_underlying hk,k2 hs,zeroValue,typeInfo,hi,hz]
theorem run_put {t kt et b : Nat} {s : ByteArray} {keys : List ByteArray} (ht : P.underlying t = some (.map kt et)) (hk : P.underlying kt = some .string) {o : Obj} (hb : w.heap[b]? = some o) (hm : MapIs keys o) (hs : s ∉ keys) :
  ∃ o',(Instr.mapUpdate t (.map (some b)) (.string s) (.agg #[])).run P w = .ok () { w with heap := w.heap.setIfInBounds b o' } ∧ MapIs (keys ++ [s]) o' := by
 obtain ⟨es,clock,rfl,he⟩ := hm.out
 obtain ⟨_,k2⟩ := find_str (s := s) es.toList keys 0 he
 refine ⟨.map (es.push { key := .string s,val := .agg #[],born := clock }) (clock + 1),?_,⟨_,_,rfl,?_⟩⟩
 ·simp [Instr.mapUpdate,run_underlying ht,MapKept.run_getObj_map hb,run_check_str hk,Instr.findKey,run_underlying hk,k2 hs,MapKept.run_setObj_map _ hb]
 ·simp [he]
theorem Sim.keep_new (s : Sim C h w) (o : Obj) {Q : Obj -> Prop} (hq : Q o) :
  ∃ C',Fw C w C' (w.alloc o) ∧ Sim C' (h ++ [.keep w.heap.size Q]) (w.alloc o) := by
 have s1 := s.alloc o (fun _ => False)
 have f1 := Fw.alloc s o (fun _ => False)
 obtain ⟨fb,fl⟩ := s.fresh
 let C1 := C.grow w (fun _ => False)
 let C' : Cx := { C1 with bx := setf C.bx h.length w.heap.size }
 have hblk : ∀ id b,C'.blk id b -> C.blk id b ∨ (id = h.length ∧ b = w.heap.size) := fun id b hb => by
  rcases hb with hb | hb
  ·by_cases e : id = h.length
   ·subst e
    have : some w.heap.size = some b := (setf_same _ _ _).symm.trans hb
    exact .inr ⟨rfl,(Option.some.inj this).symm⟩
   ·exact .inl (.inl ((setf_other _ _ e).symm.trans hb))
  ·exact .inl (.inr hb)
 have e1 : Ev C1 (w.alloc o) C' (w.alloc o) := ⟨rfl,rfl,rfl,Nat.le_refl _,fun _ _ h => h,fun _ _ _ => rfl,fun id b hb => by
  have : id ≠ h.length := fun e => by subst e;rw [show C1.bx h.length = none from fb] at hb;cases hb
  exact (setf_other _ _ this).trans hb,fun _ u h => ⟨u,h,.inl rfl⟩⟩
 have f : Fw C w C' (w.alloc o) := by
  have e0 := f1.toEv
  refine ⟨⟨rfl,rfl,rfl,e0.size,e0.sub,e0.cell,fun id b hb => e1.bx id b hb,fun id u hu => ⟨u,hu,.inl rfl⟩⟩,f1.frame,fun id b hb hlt => ?_,f1.new⟩
  rcases hblk id b hb with h' | ⟨_,rfl⟩
  ·exact ⟨id,h'⟩
  ·omega
 refine ⟨C',f,⟨s1.S,fun id t' ds' e => ?_,fun id e sz n e' => ?_,fun id b hb => ?_,fun id b hb => ?_,fun id u hu => ?_,fun id id' b hb hb' => ?_,fun id b hb => ?_,fun id b Q' e => ?_⟩⟩
 ·rcases ids_old e with ⟨_,e⟩ | ⟨_,e⟩
  ·obtain ⟨b,vs',h2,h3,h4,h5,h6⟩ := s1.box id t' ds' e
   exact ⟨b,vs',e1.bx id b h2,h3,h4.mono e1,h5,h6⟩
  ·cases e
 ·rcases ids_old e' with ⟨_,e'⟩ | ⟨_,e'⟩
  ·exact s1.log id e sz n e'
  ·cases e'
 ·rcases hblk id b hb with h' | ⟨_,rfl⟩
  ·exact s1.lt id b h'
  ·simp
 ·by_cases e : id = h.length
  ·simp [e]
  ·have := s.idb id b ((setf_other _ _ e).symm.trans hb)
   simp;omega
 ·have := s.idl id u hu
  simp;omega
 ·rcases hblk id b hb with h2 | ⟨rfl,rfl⟩ <;> rcases hblk id' _ hb' with h3 | ⟨rfl,e⟩
  ·exact s.inj id id' b h2 h3
  ·subst e;exact absurd (s.lt id _ h2) (Nat.lt_irrefl _)
  ·exact absurd (s.lt id' _ h3) (Nat.lt_irrefl _)
  ·rfl
 ·by_cases e : id = h.length
  ·subst e;exact fl
  ·exact s.one id b ((setf_other _ _ e).symm.trans hb)
 ·rcases ids_old e with ⟨_,e⟩ | ⟨hid,e0⟩
  ·obtain ⟨h2,h3,h4⟩ := s1.keep id b Q' e
   exact ⟨e1.bx id b h2,h3,h4⟩
  ·subst hid
   clear e
   cases e0
   refine ⟨setf_same _ _ _,⟨o,heap_alloc_new w _,hq⟩,fun o' hs => ?_⟩
   rcases hs with hs | ⟨_,hf⟩
   ·exact Nat.lt_irrefl _ (s.S _ _ hs)
   ·exact hf
theorem Sim.keep_set (s : Sim C h w) {id b : Nat} {Q Q' : Obj -> Prop} (hid : h[id]? = some (.keep b Q)) {o' : Obj} (hq : Q' o') :
  Fw C w C { w with heap := w.heap.setIfInBounds b o' } ∧ Sim C (h.set id (.keep b Q')) { w with heap := w.heap.setIfInBounds b o' } := by
 obtain ⟨hbx,⟨o,ho,_⟩,hS⟩ := s.keep id b Q hid
 have hlt : b < w.heap.size := s.lt id b (.inl hbx)
 have hidl : id < h.length := (List.getElem?_eq_some_iff.1 hid).1
 generalize hw : ({ w with heap := w.heap.setIfInBounds b o' } : World) = w'
 have other : ∀ k,k ≠ b -> w'.heap[k]? = w.heap[k]? := fun k hk => by
  rw [← hw]
  have hk' : b ≠ k := fun e => hk e.symm
  simp [Array.getElem?_setIfInBounds,hk']
 have new : w'.heap[b]? = some o' := by rw [← hw];simp [hlt]
 have hsz : w'.heap.size = w.heap.size := by rw [← hw];simp
 have ev : Ev C w C w' := ⟨by rw [← hw],by rw [← hw],by rw [← hw],by omega,fun _ _ h => h,fun b0 o0 hs => World.cell?_of_block (w := w) (w' := w') (other b0 fun e => hS o0 (e ▸ hs)),fun _ _ h => h,fun _ u h => ⟨u,h,.inl rfl⟩⟩
 have f : Fw C w C w' := ⟨ev,fun b0 _ hn => other b0 fun e => hn id (.inl (e ▸ hbx)),fun id0 b0 hk _ => ⟨id0,hk⟩,fun _ _ h _ => .inl h⟩
 refine ⟨f,⟨s.S.mono ev fun b0 o0 hs => by rw [hsz];exact s.S b0 o0 hs,fun id0 t ds e => ?_,fun id0 e sz n e' => ?_,fun id0 b0 hb => by rw [hsz];exact s.lt id0 b0 hb,fun id0 b0 hb => by rw [List.length_set];exact s.idb id0 b0 hb,fun id0 u hu => by rw [List.length_set];exact s.idl id0 u hu,s.inj,s.one,fun id0 b0 Q0 e => ?_⟩⟩
 ·obtain ⟨hi,e⟩ := set_old e (fun h => by cases h)
  obtain ⟨b0,vs,h1,h2,h3,h4,h5⟩ := s.box id0 t ds e
  exact ⟨b0,vs,h1,(other b0 fun e => hi (s.inj id0 id b (.inl (e ▸ h1)) (.inl hbx))).trans h2,h3.mono ev,h4,h5⟩
 ·obtain ⟨hi,e'⟩ := set_old e' (fun h => by cases h)
  obtain ⟨u,xs,h1,h2,h3⟩ := s.log id0 e sz n e'
  exact ⟨u,xs,h1,own_block h2 fun b0 hb0 => other b0 fun e => hi (s.inj id0 id b (.inr ⟨u,h1,e ▸ hb0⟩) (.inl hbx)),h3⟩
 ·by_cases hi : id0 = id
  ·subst hi
   rw [List.getElem?_set_self hidl] at e
   cases e
   exact ⟨hbx,⟨o',new,hq⟩,hS⟩
  ·rw [List.getElem?_set_ne (fun e => hi e.symm)] at e
   obtain ⟨h1,⟨x,h2,h3⟩,h4⟩ := s.keep id0 b0 Q0 e
   exact ⟨h1,⟨x,(other b0 fun e => hi (s.inj id0 id b (.inl (e ▸ h1)) (.inl hbx))).trans h2,h3⟩,h4⟩
end
structure MakeMapK (h : H) (K : D -> H -> Prop) : Prop where
 out : ∀ b,K (.raw (.map (some b))) (h ++ [.keep b (MapIs [])])
structure LookK (T : TP) (t : TypeId) (b : Nat) (s : ByteArray) (h : H) (K : D -> Prop) : Prop where
 out : ∃ (id : Nat) (keys : List ByteArray) (kt et : TypeId) (i : TypeInfo),h[id]? = some (Cell.keep b (MapIs keys)) ∧ (T ()).underlying t = some (.map kt et) ∧ (T ()).underlying kt = some .string ∧ (T ()).info? et = some i ∧ i.zero = some (.agg #[]) ∧ (s ∈ keys -> K (.raw (.tuple #[.agg #[],.bool true]))) ∧ (s ∉ keys -> K (.raw (.tuple #[.agg #[],.bool false])))
structure PutK (T : TP) (t : TypeId) (b : Nat) (s : ByteArray) (h : H) (K : H -> Prop) : Prop where
 out : ∃ (id : Nat) (keys : List ByteArray) (kt et : TypeId),h[id]? = some (Cell.keep b (MapIs keys)) ∧ (T ()).underlying t = some (.map kt et) ∧ (T ()).underlying kt = some .string ∧ s ∉ keys ∧ K (h.set id (.keep b (MapIs (keys ++ [s]))))
def yop (T : TP) (own : Bool) (ρ : Operand -> D) (o : Oper) (h : H) (R K : D -> H -> Prop) : Prop :=
 match o.op with
 | .panic x => match ρ x with
  | .ifc t d => R (.ifc t d) h
  | .raw (.iface t v) => R (.raw (.iface t v)) h
  | _ => False
 | .makeMap _ none => MakeMapK h K
 | .lookup t m k true => match ρ m,ρ k with
  | .raw (.map (some b)),.raw (.string s) => LookK T t b s h fun d => K d h
  | _,_ => False
 | .mapUpdate t m k v => match ρ m,ρ k,ρ v with
  | .raw (.map (some b)),.raw (.string s),.agg [] => PutK T t b s h fun h' => K .any h'
  | _,_,_ => False
 | .call c => match c.callee with
  | .value f => match fnD (ρ f) with
   | some (k,first,cap) => XCallK T k (first ++ c.args.toList.map ρ ++ cap) h fun b d h' => match b with
    | true => K d h'
    | false => R d h'
   | none => False
  | _ => wop T own ρ o h K
 | _ => wop T own ρ o h K
theorem call_args {C : Cx} {w : World} {ρ : Operand -> D} {a : Act} (hr : Reads C w ρ a.eval) {f : Operand} {args : Array Operand} {k : FuncId} {first cap : List D} (hf : fnD (ρ f) = some (k,first,cap)) :
  ∃ x y,a.eval f = .func (.func k) x y ∧ RdL C w (first ++ args.toList.map ρ ++ cap) (x.toList ++ args.toList.map a.eval ++ y.toList) := by
 have hfr := hr f
 unfold fnD at hf
 split at hf
 ·rename_i k' x y hv
  cases hf
  rw [hv] at hfr
  simp only [Rd] at hfr
  exact ⟨x,y,hfr,((RdL.raws C w _).app (hr.map _)).app (RdL.raws C w _)⟩
 ·rename_i k' x y hv
  cases hf
  rw [hv] at hfr
  simp only [Rd] at hfr
  obtain ⟨vs,us,e1,r1,r2⟩ := hfr
  exact ⟨_,_,e1,by simpa using (r1.app (hr.map _)).app r2⟩
 ·cases hf
theorem call_run {P : Program} {a : Act} {w : World} {o : Oper} {f : Operand} {args : Array Operand} {ats : Array TypeId} (ho : o.op = .call { callee := .value f,args := args,argTypes := ats }) {k : FuncId} {x y : Array Value} (hev : a.eval f = .func (.func k) x y) (hcal : Callable P k) :
  (execOp a.eval o).run P w = .ok (.enter k ((x.toList ++ args.toList.map a.eval ++ y.toList).toArray)) w := by
 simp only [execOp,ho,Sem.run_bind,resolve,hev,Deferred.ofValue,Sem.run_pure,Result.andThen_ok,invoke]
 rw [callable_run hcal]
 congr 2
 apply Array.ext'
 simp
section
variable {T : TP}
theorem yop_sound {C : Cx} {h : H} {w : World} (s : Sim C h w) {ρ : Operand -> D} {a : Act} (hr : Reads C w ρ a.eval) {o : Oper} {own : Bool} {R K : D -> H -> Prop} (e : yop T own ρ o h R K) {Rw : Act -> World -> Prop} {Q : Exit -> Act -> World -> Prop}
  (hk : ∀ d h' v C' w',K d h' -> Fw C w C' w' -> Sim C' h' w' -> Rd C' w' d v -> Rw (a.put o.dst v) w')
  (hp : ∀ d h' v C' w',R d h' -> Fw C w C' w' -> Sim C' h' w' -> Rd C' w' d v -> Q (.panic [{ v,recovered := false }]) a w') : o.wp (T ()) a w Rw Q := by
 unfold yop at e
 split at e
 ·rename_i x ho
  have hx := hr x
  have hrun : ∀ t v,a.eval x = .iface t v -> (execOp a.eval o).run (T ()) w = .halt (.panic (.iface t v)) w := fun t v hv => by
   simp only [execOp,ho,Sem.run_bind,hv,Instr.panic]
   try rfl
  split at e
  ·rename_i t d hd
   rw [hd] at hx
   obtain ⟨u,hu,hru⟩ := hx
   unfold Oper.wp
   rw [hrun t u hu,Oper.upon_panic]
   exact hp _ _ _ C w e (Fw.refl _ _) s ⟨u,rfl,hru⟩
  ·rename_i t v hd
   rw [hd] at hx
   simp only [Rd] at hx
   unfold Oper.wp
   rw [hrun t v hx,Oper.upon_panic]
   exact hp _ _ _ C w e (Fw.refl _ _) s rfl
  ·exact e.elim
 ·rename_i t ho
  obtain ⟨C',f,s'⟩ := s.keep_new (.map #[] 0) (Q := MapIs []) ⟨#[],0,rfl,rfl⟩
  refine wp_of_value (w' := w.alloc (.map #[] 0)) (v := .map (some w.heap.size)) ?_ (hk _ _ _ C' _ (e.out w.heap.size) f s' rfl)
  simp only [execOp,ho]
  try rfl
 ·rename_i t m k ho
  split at e
  ·rename_i b st hm hkk
   obtain ⟨id,keys,kt,et,i,h1,h2,h3,h4,h5,h6,h7⟩ := e.out
   have hmv := hr m
   have hkv := hr k
   rw [hm] at hmv
   rw [hkk] at hkv
   simp only [Rd] at hmv hkv
   obtain ⟨hbx,⟨ob,ho1,ho2⟩,_⟩ := s.keep id b _ h1
   obtain ⟨hr1,hr2⟩ := run_look (w := w) (s := st) h2 h3 h4 h5 ho1 ho2
   by_cases hs : st ∈ keys
   ·exact wp_of_value (w' := w) (v := .tuple #[.agg #[],.bool true]) (by simp [execOp,ho,hmv,hkv,hr1 hs]) (hk _ _ _ C w (h6 hs) (Fw.refl _ _) s rfl)
   ·exact wp_of_value (w' := w) (v := .tuple #[.agg #[],.bool false]) (by simp [execOp,ho,hmv,hkv,hr2 hs]) (hk _ _ _ C w (h7 hs) (Fw.refl _ _) s rfl)
  ·exact e.elim
 ·rename_i t m k v ho
  split at e
  ·rename_i b st hm hkk hvv
   obtain ⟨id,keys,kt,et,h1,h2,h3,h4,h5⟩ := e.out
   have hmv := hr m
   have hkv := hr k
   have hvr := hr v
   rw [hm] at hmv
   rw [hkk] at hkv
   rw [hvv] at hvr
   simp only [Rd] at hmv hkv
   obtain ⟨vs,hvs,hnil⟩ := hvr
   simp only [RdL] at hnil
   subst hnil
   obtain ⟨hbx,⟨ob,ho1,ho2⟩,_⟩ := s.keep id b _ h1
   obtain ⟨o',hrun,hm'⟩ := run_put (w := w) (s := st) h2 h3 ho1 ho2 h4
   obtain ⟨f,s'⟩ := s.keep_set h1 hm'
   unfold Oper.wp
   have hex : (execOp a.eval o).run (T ()) w = .ok .skip { w with heap := w.heap.setIfInBounds b o' } := by
    simp only [execOp,ho,hmv,hkv,hvs,Sem.run_bind,hrun]
    try rfl
   rw [hex,Oper.upon_skip]
   exact hk _ _ _ C _ h5 f s' trivial
  ·exact e.elim
 ·rename_i c ho
  split at e
  ·rename_i f hc
   split at e
   ·rename_i k first cap hf
    obtain ⟨Q',⟨hcal,hret⟩,hq⟩ := e.out
    obtain ⟨callee,args,argTypes⟩ := c
    simp only at hc
    subst hc
    obtain ⟨x,y,hev,hargs⟩ := call_args (args := args) hr hf
    unfold Oper.wp
    rw [call_run ho hev hcal,Oper.upon_enter]
    refine Calls.mono (hret C w _ s hargs) ?_
    rintro e' w' ⟨b,v,C',d,h',rfl,k0,k1,k2,k3⟩
    have := hq b d h' k0
    cases b with
    | true => exact hk d h' v C' w' this k1 k2 k3
    | false => exact hp d h' v C' w' this k1 k2 k3
   ·exact e.elim
  ·exact wop_sound s hr e hk
 ·exact wop_sound s hr e hk
end
section
variable {P : Program}
def ordX (l : List Oper) (n m : Nat) (free : List Nat) : Bool :=
 let L := ancL l n n
 (List.range m).all fun j => match l[j]? with
  | some oj => !isTurn oj || (List.range m).all fun i => match l[i]? with
   | some oi => decide (i = j) || !(isTurn oi || (isLoad oi && !free.contains i)) || (if i < j then (L.getD j []).contains i else (L.getD i []).contains j)
   | none => true
  | none => true
structure PanicsP (P : Program) (ρ : Operand -> D) (o : Oper) (h : H) (R : D -> H -> Prop) : Prop where
 out : ∀ (C : Cx) (w : World) (a : Act),Sim C h w -> Reads C w ρ a.eval -> ∀ (Rw : Act -> World -> Prop) (Q : Exit -> Act -> World -> Prop),(∀ d h' v C' w',R d h' -> Fw C w C' w' -> Sim C' h' w' -> Rd C' w' d v -> Q (.panic [{ v,recovered := false }]) a w') -> o.wp P a w Rw Q
structure XRun (P : Program) (l : List Oper) (n m : Nat) (ts : List D) (h : H) (vs : List D) (hst : List H) : Prop where
 len : vs.length = m
 len2 : hst.length = m + 1
 zero : hst.getD 0 [] = h
 spec : ∀ i,i < m -> ∃ o d,l[i]? = some o ∧ vs[i]? = some d ∧ TStep P l n ts (vs.take i) (hst.getD i []) o d (hst.getD (i + 1) [])
def FreeX (P : Program) (l : List Oper) (n m : Nat) (ts vs : List D) (hst : List H) (free : List Nat) : Prop := ∀ i,i < m -> free.contains i = true -> ∀ p,p ≤ m -> ∃ o d,l[i]? = some o ∧ vs[i]? = some d ∧ sop P (lval l n ts (vs.take i) o) o (hst.getD p []) = some d
structure LInvX (C : Cx) (W : World) (l : List Oper) (n m : Nat) (vs : List D) (hst : List H) (a0 : Act) (listed : Array Bool) (a : Act) (w : World) (Cx' : Cx) : Prop where
 fw : Fw C W Cx' w
 defers : a.defers = a0.defers
 size : a.tmps.size = a0.tmps.size
 at_ : ∃ p,p ≤ m ∧ (∀ j o,j < m -> l[j]? = some o -> isTurn o = true -> (listed.getD j false = true ↔ j < p)) ∧ Sim Cx' (hst.getD p []) w
 other : ∀ t,(∀ i,i < n -> dstAt l i ≠ some t) -> a.tmps[t]? = a0.tmps[t]?
 val : ∀ k t,k < m -> listed.getD k false = true -> dstAt l k = some t -> ∃ v,a.tmps[t]? = some v ∧ Rd Cx' w (vs.getD k .any) v
 off : ∀ k,m ≤ k -> k < n -> listed.getD k false = false
theorem hst_sameX {l : List Oper} {n m : Nat} {ts : List D} {vs : List D} {hst : List H} (hspec : ∀ i,i < m -> ∃ o d,l[i]? = some o ∧ vs[i]? = some d ∧ TStep P l n ts (vs.take i) (hst.getD i []) o d (hst.getD (i + 1) [])) {p : Nat} : ∀ {q : Nat},p ≤ q -> q ≤ m -> (∀ j o,p ≤ j -> j < q -> l[j]? = some o -> isTurn o = false) -> hst.getD q [] = hst.getD p []
 | 0,hpq,_,_ => by
  have : p = 0 := by omega
  rw [this]
 | q + 1,hpq,hq,hno => by
  by_cases e : p = q + 1
  ·rw [e]
  ·obtain ⟨o,d,h1,h2,h3⟩ := hspec q (by omega)
   have hs := hno q o (by omega) (by omega) h1
   have : hst.getD (q + 1) [] = hst.getD q [] := by
    rcases h3 with ⟨_,h3,_⟩ | ⟨_,_,_,h3⟩ | ⟨_,_,h3⟩
    ·rw [hs] at h3
     cases h3
    ·exact h3
    ·exact h3
   rw [this]
   exact hst_sameX hspec (by omega) (by omega) fun j o h1 h2 h3 => hno j o h1 (by omega) h3
theorem aturnX_core (hm : P.follows .mixedOrders = true) {l : List Oper} {n m : Nat} {ts : List D} {h : H} {vs : List D} {hst : List H} {free : List Nat} {Rp : D -> H -> Prop} (hmn : m ≤ n) (hr : XRun P l n m ts h vs hst) (hst4 : headB .any l.toArray n = true ∧ dstsB l.toArray n ts.length = true ∧ waitsB l n = true ∧ ordX l n (min (m + 1) n) free = true) (hfree : FreeX P l n m ts vs hst free)
  (hpan : m < n -> (∃ o,l[m]? = some o ∧ isTurn o = true ∧ lwanted l vs o = some true ∧ PanicsP P (lval l n ts vs o) o (hst.getD m []) Rp) ∧ ∀ k,m < k -> k < n -> ((ancL l n n).getD k []).contains m = true)
  (id : Nat) {C : Cx} {w : World} {a0 : Act} {Q : Exit -> Act -> World -> Prop} (s : Sim C h w) (ta : TA C w ts a0)
  (hpq : ∀ d h' a' C' w' v,Rp d h' -> Fw C w C' w' -> Sim C' h' w' -> Rd C' w' d v -> a'.defers = [] -> Q (.panic [{ v,recovered := false }]) a' w')
  (hk : m = n -> ∀ a' C' w',Fw C w C' w' -> Sim C' (hst.getD n []) w' -> TA C' w' (lputs l vs n ts) a' -> wpList P l.toArray Q (l.drop n) a' w') : (Code.region id l.toArray true).wp P Q a0 w := by
 obtain ⟨hB,hd,hw,hord⟩ := hst4
 obtain ⟨hlen,hlen2,hz,hspec⟩ := hr
 obtain ⟨s1,f1⟩ := s.drew
 have ta1 := ta.mono f1.toEv
 have hnsz : n ≤ l.toArray.size := by
  simp only [headB,Bool.and_eq_true,decide_eq_true_eq] at hB
  exact hB.1.1.2
 have hsz : ts.length ≤ a0.tmps.size := by have := ta.rd.len;simp at this;omega
 have hdst : ∀ k k' t,k < n -> k' < n -> dstAt l k = some t -> dstAt l k' = some t -> k = k' := fun k k' t hkn hkn' e1 e2 => by
  by_cases hkk : k = k'
  ·exact hkk
  ·exact absurd ((getElem?_bind_toArray l k').trans e2) (dstsB_ne hd hkn hkn' hkk ((getElem?_bind_toArray l k).trans e1))
 have hdlt : ∀ k t,k < n -> dstAt l k = some t -> t < ts.length := fun k t hkn e1 => dstsB_lt hd hkn ((getElem?_bind_toArray l k).trans e1)
 refine wp_region_any hm ?_
 have H := wpAny_inv (P := P) (md := .any) (ops := l.toArray) (n := n) (Q := Q) (Inv := fun listed a x => ∃ Cx',LInvX C w.drew l n m vs hst a0 listed a x Cx') hB ?_ ?_ n (Array.replicate l.toArray.size false) a0 w.drew
  ⟨by simp,fun j oj _ hl => (by rw [getD_replicate_false] at hl;cases hl),fun t _ ht => getD_in (by simpa using ht) (getD_replicate_false _ _)⟩ ?_
  ⟨C,Fw.refl _ _,rfl,rfl,⟨0,Nat.zero_le _,fun j o _ _ _ => ⟨fun hl => (by rw [getD_replicate_false] at hl;cases hl),fun h0 => absurd h0 (Nat.not_lt_zero _)⟩,by rw [hz];exact s1⟩,fun _ _ => rfl,fun k t _ hl => (by rw [getD_replicate_false] at hl;cases hl),fun k _ _ => getD_replicate_false _ _⟩
 ·rw [show n + (l.toArray.size - n) = l.toArray.size by omega] at H
  exact H
 ·
  rintro listed a x i inv hrd hi ⟨Cy,I⟩
  obtain ⟨hun,o,ho,hall⟩ := mem_ready.1 hrd
  have hoi : l[i]? = some o := by simpa using ho
  have hunf : listed.getD i false = false := getD_both hun
  have hisz : i < listed.size := by
   rw [inv.size]
   omega
  have hlw : ∀ k,waits l.toArray i k = true -> listed.getD k false = true := fun k hwk => by
   obtain ⟨oj,hoj,e',he',hbd,hon⟩ := Region.waitsFor_spec hwk
   have : oj = o := Option.some.inj (hoj.symm.trans ho)
   subst this
   have := hall e' he' hbd
   rwa [hon] at this
  have hclo : ∀ j k,waits l.toArray j k = true -> listed.getD j false = true -> listed.getD k false = true := fun j k hwk hl => by
   obtain ⟨oj,hoj,e',he',hbd,hon⟩ := Region.waitsFor_spec hwk
   have := inv.closed j oj hoj hl e' he' hbd
   rwa [hon] at this
  obtain ⟨hal,hanc⟩ := ancL_spec (n := n) hclo n
  have hlm : ∀ k,k < n -> listed.getD k false = true -> k < m := fun k hkn hl => by
   rcases Nat.lt_or_ge k m with h1 | h1
   ·exact h1
   ·rw [I.off k h1 hkn] at hl
    cases hl
  have him : i ≤ m := by
   rcases Nat.lt_or_ge m i with h1 | h1
   ·have h2 := (hpan (by omega)).2 i h1 hi
    have h3 := hanc i hi m (by simpa using h2) hlw
    have := hlm m (by omega) h3
    omega
   ·exact h1
  obtain ⟨p,hpn,hpw,sp⟩ := I.at_
  have hwi := List.all_eq_true.1 hw i (List.mem_range.2 hi)
  rw [hoi] at hwi
  simp only [Bool.and_eq_true] at hwi
  have ordS : ∀ j oj,j < m -> l[j]? = some oj -> isTurn oj = true -> i ≠ j -> (isTurn o = true ∨ (isLoad o = true ∧ free.contains i = false)) -> (if i < j then ((ancL l n n).getD j []).contains i else ((ancL l n n).getD i []).contains j) = true := fun j oj hj hoj hs hne hm => by
   have h1 := List.all_eq_true.1 hord j (List.mem_range.2 (by omega))
   rw [hoj] at h1
   simp only [hs,Bool.not_true,Bool.false_or] at h1
   have h2 := List.all_eq_true.1 h1 i (List.mem_range.2 (by omega))
   rw [hoi] at h2
   simp only [Bool.or_eq_true,decide_eq_true_eq,Bool.not_eq_true'] at h2
   rcases h2 with (h2 | h2) | h2
   ·exact absurd h2 hne
   ·rcases hm with hm | ⟨hm,hf⟩
    ·simp [hm] at h2
    ·rw [hm,hf] at h2
     simp at h2
   ·exact h2
  have here : (isTurn o = true ∨ (isLoad o = true ∧ free.contains i = false)) -> hst.getD p [] = hst.getD i [] := fun hmem => by
   rcases Nat.le_total p i with hpi | hip
   ·refine (hst_sameX hspec hpi (by omega) fun j oj h1 h2 h3 => ?_).symm
    cases hs : isTurn oj with
    | false => rfl
    | true =>
     have h4 := ordS j oj (by omega) h3 hs (by omega) hmem
     rw [if_neg (by omega)] at h4
     have h5 := hanc i hi j (by simpa using h4) hlw
     have := (hpw j oj (by omega) h3 hs).1 h5
     omega
   ·refine hst_sameX hspec hip hpn fun j oj h1 h2 h3 => ?_
    cases hs : isTurn oj with
    | false => rfl
    | true =>
     have h5 := (hpw j oj (by omega) h3 hs).2 h2
     by_cases hij : i = j
     ·subst hij
      rw [hunf] at h5
      cases h5
     ·have h4 := ordS j oj (by omega) h3 hs hij hmem
      rw [if_pos (by omega)] at h4
      have h6 := hanc j (by omega) i (by simpa using h4) fun q hq => hclo j q hq h5
      rw [hunf] at h6
      cases h6
  have hread : Reads Cy x (lval l n ts (vs.take i) o) a.eval := fun y => by
   cases y with
   | tmp t =>
    simp only [lval]
    cases hix : dstIx l t n with
    | none =>
     have h1 : a.tmps[t]? = a0.tmps[t]? := I.other t (dstIx_none hix)
     have h2 := (ta1.mono I.fw.toEv).reads (.tmp t)
     have h3 : a.eval (.tmp t) = a0.eval (.tmp t) := by simp [Act.eval,h1]
     rw [h3]
     exact h2
    | some k =>
     obtain ⟨hkn,hkd⟩ := dstIx_some hix
     simp only
     split
     ·rename_i hdep
      have hmem : k ∈ depsOf l n o := by simpa using hdep
      have hwk : waits l.toArray i k = true := (List.all_eq_true.1 hwi.1) k hmem
      obtain ⟨v,hv1,hv2⟩ := I.val k t (hlm k hkn (hlw k hwk)) (hlw k hwk) hkd
      have hval1 : a.eval (.tmp t) = v := by simp [Act.eval,hv1]
      rw [hval1]
      by_cases hki : k < i
      ·have e2 : (vs.take i).getD k .any = vs.getD k .any := by simp [List.getD,List.getElem?_take_of_lt hki]
       rw [e2]
       exact hv2
      ·have e2 : (vs.take i).getD k .any = .any := by
        simp only [List.getD]
        rw [List.getElem?_eq_none (by rw [List.length_take];omega)]
        try rfl
       rw [e2]
       trivial
     ·trivial
   | const v => exact (rfl : v = v)
   | global g => exact (rfl : (Value.pointer (some ⟨g,0,none⟩)) = _)
   | func f => exact (rfl : (Value.func (.func f) #[] #[]) = _)
  have hwant : ∀ b,lwanted l (vs.take i) o = some b -> Region.wanted o (yielded l.toArray a.tmps) = b := fun b e => by
   unfold lwanted at e
   unfold Region.wanted
   split at e
   ·rename_i hg
    cases e
    simp [hg]
   ·rename_i j want hg
    rw [hg] at hwi
    simp only [Bool.and_eq_true,decide_eq_true_eq] at hwi
    obtain ⟨hjn,hjw⟩ := hwi.2
    simp only [hg]
    have key : ∀ t u,dstAt l j = some t -> (vs.take i)[j]? = some (.raw u) -> a.tmps[t]? = some u := fun t u h1 h2 => by
     obtain ⟨v,hv1,hv2⟩ := I.val j t (hlm j hjn (hlw j hjw)) (hlw j hjw) h1
     have h4 : vs.getD j .any = .raw u := by
      have hlt := (List.getElem?_eq_some_iff.1 h2).1
      rw [List.length_take] at hlt
      rw [List.getElem?_take_of_lt (by omega)] at h2
      simp [List.getD,h2]
     rw [h4] at hv2
     simp only [Rd] at hv2
     rw [hv1,hv2]
    split at e
    ·rename_i t b' h1 h2
     cases e
     unfold yielded
     rw [getElem?_bind_toArray,h1]
     simp only [Option.bind_some,key _ _ h1 h2]
     cases b' <;> cases want <;> rfl
    ·rename_i t u h1 h2
     cases e
     unfold yielded
     rw [getElem?_bind_toArray,h1]
     simp only [Option.bind_some,key _ _ h1 h2]
     try rfl
    ·cases e
  by_cases hlast : i = m
  ·subst hlast
   obtain ⟨⟨o2,ho2,hturn,hwt,hpp⟩,_⟩ := hpan hi
   rw [hoi] at ho2
   cases ho2
   have hvt : vs.take i = vs := List.take_of_length_le (by omega)
   rw [hvt] at hread hwant
   unfold wpOp
   simp only [ho]
   rw [hwant _ hwt,if_pos rfl]
   rw [← here (.inl hturn)] at hpp
   exact .inl (hpp.out Cy x a sp hread _ _ fun d h' v C' w' q f s' r => hpq d h' a C' w' v q ((f1.trans I.fw).trans f) s' r (I.defers.trans ta.defers))
  have hi' : i < m := by omega
  obtain ⟨o',d,e1,hvd,hst3⟩ := hspec i hi'
  rw [hoi] at e1
  cases e1
  have hvg : vs.getD i .any = d := by simp [List.getD,hvd]
  have next : ∀ (v : Value) (x' : World) (C' : Cx),Fw Cy x C' x' -> Rd C' x' d v -> (∃ p,p ≤ m ∧ (∀ j oj,j < m -> l[j]? = some oj -> isTurn oj = true -> ((listed.setIfInBounds i true).getD j false = true ↔ j < p)) ∧ Sim C' (hst.getD p []) x') -> ∃ Cx',LInvX C w.drew l n m vs hst a0 (listed.setIfInBounds i true) (a.put o.dst v) x' Cx' := fun v x' C' f r hp => by
   have hdo : dstAt l i = o.dst := by simp [dstAt,hoi]
   refine ⟨C',I.fw.trans f,(by rw [← I.defers];exact put_defers _ _ _),(put_size _ _ _).trans I.size,hp,fun t ht => (put_other _ _ (by rw [← hdo];exact ht i hi)).trans (I.other t ht),fun k t hkm hl hkd => ?_,fun k h1 h2 => ?_⟩
   ·have hkn : k < n := by omega
    by_cases hki : k = i
    ·subst hki
     rw [hdo] at hkd
     rw [hvg]
     refine ⟨v,?_,r⟩
     rw [hkd]
     exact put_same _ _ (by rw [I.size];exact Nat.lt_of_lt_of_le (hdlt k t hi (hdo.trans hkd)) hsz)
    ·rw [getD_set_ne false (fun e' => hki e'.symm)] at hl
     obtain ⟨u,hu1,hu2⟩ := I.val k t hkm hl hkd
     refine ⟨u,?_,hu2.mono f.toEv⟩
     rw [put_other _ _ fun e' => hki (hdst k i t hkn hi hkd (hdo.trans e'))]
     exact hu1
   ·rw [getD_set_ne false (fun e' => by omega)]
    exact I.off k h1 h2
  have setd : (listed.setIfInBounds i true).getD i false = true := by simp [hisz]
  have stay : isTurn o = false -> ∃ p,p ≤ m ∧ (∀ j oj,j < m -> l[j]? = some oj -> isTurn oj = true -> ((listed.setIfInBounds i true).getD j false = true ↔ j < p)) ∧ Sim Cy (hst.getD p []) x := fun hns => by
   refine ⟨p,hpn,fun j oj hj hoj hs => ?_,sp⟩
   have hji : j ≠ i := fun e' => by
    subst e'
    rw [hoi] at hoj
    cases hoj
    rw [hs] at hns
    cases hns
   rw [getD_set_ne false (fun e' => hji e'.symm)]
   exact hpw j oj hj hoj hs
  have goes : isTurn o = true -> ∀ C' x',Sim C' (hst.getD (i + 1) []) x' -> ∃ p,p ≤ m ∧ (∀ j oj,j < m -> l[j]? = some oj -> isTurn oj = true -> ((listed.setIfInBounds i true).getD j false = true ↔ j < p)) ∧ Sim C' (hst.getD p []) x' := fun his C' x' sx => by
   have hpi : p ≤ i := by
    have := hpw i o hi' hoi his
    rcases Nat.lt_or_ge i p with h1 | h1
    ·have := this.2 h1
     rw [hunf] at this
     cases this
    ·exact h1
   refine ⟨i + 1,by omega,fun j oj hj hoj hs => ?_,sx⟩
   by_cases hji : j = i
   ·subst hji
    exact ⟨fun _ => Nat.lt_succ_self _,fun _ => setd⟩
   ·rw [getD_set_ne false (fun e' => hji e'.symm),hpw j oj hj hoj hs]
    refine ⟨fun h1 => by omega,fun h1 => ?_⟩
    have h4 := ordS j oj hj hoj hs (fun e' => hji e'.symm) (.inl his)
    rw [if_neg (by omega)] at h4
    have h5 := hanc i hi j (by simpa using h4) hlw
    exact (hpw j oj hj hoj hs).1 h5
  unfold wpOp
  simp only [ho]
  rcases hst3 with ⟨hwt,his,htp⟩ | ⟨hwt,hns,hsop,_⟩ | ⟨hwt,hd0,hh2⟩
  ·rw [hwant _ hwt,if_pos rfl]
   rw [← here (.inl his)] at htp
   exact .inl (htp.out Cy x a sp hread _ _ fun v C' x' f s' r => next v x' C' f r (goes his C' x' s'))
  ·rw [hwant _ hwt,if_pos rfl]
   have hsop' : sop P (lval l n ts (vs.take i) o) o (hst.getD p []) = some d := by
    cases hld : isLoad o with
    | true =>
     cases hfr : free.contains i with
     | false => rw [here (.inr ⟨hld,hfr⟩)];exact hsop
     | true =>
      obtain ⟨o3,d3,q1,q2,q3⟩ := hfree i hi' hfr p hpn
      rw [hoi] at q1
      cases q1
      rw [hvd] at q2
      cases q2
      exact q3
    | false => rw [sop_still hld];exact hsop
   obtain ⟨v,k1,k2⟩ := sop_sound sp hread hsop'
   exact .inl (wp_of_value k1 (next v x Cy (Fw.refl _ _) k2 (stay hns)))
  ·rw [hwant _ hwt,if_neg (by simp)]
   subst hd0
   refine next undef x Cy (Fw.refl _ _) rfl ?_
   cases hso : isTurn o with
   | false => exact stay hso
   | true => exact goes hso Cy x (by rw [hh2,← here (.inl hso)];exact sp)
 ·
  rintro a x ⟨Cy,I⟩
  have hall : ∀ i,i < n -> (doneA n (l.toArray.size - n)).getD i false = true := fun i hi => by
   unfold doneA
   simp [List.getElem?_append_left,hi]
  have hmn' : n = m := by
   rcases Nat.lt_or_ge m n with h1 | h1
   ·have h2 := I.off m (Nat.le_refl _) h1
    rw [hall m h1] at h2
    cases h2
   ·omega
  subst hmn'
  obtain ⟨p,hpn,hpw,sp⟩ := I.at_
  have hend : hst.getD n [] = hst.getD p [] := hst_sameX hspec hpn (Nat.le_refl _) fun j oj h1 h2 h3 => by
   cases hs : isTurn oj with
   | false => rfl
   | true =>
    have := (hpw j oj h2 h3 hs).1 (hall j h2)
    omega
  have tfin : ∀ i,i ≤ n -> RdL Cy x (lputs l vs i ts) ((putV l.toArray (fun k => match dstAt l k with | some t => a.tmps.getD t undef | none => undef) a0 i).tmps.toList) := by
   intro i
   induction i with
   | zero => intro _;exact (ta1.mono I.fw.toEv).rd
   | succ i ih0 =>
    intro hi
    have ih := ih0 (by omega)
    simp only [lputs,putV]
    have e0 : (l.toArray[i]?).bind (·.dst) = dstAt l i := getElem?_bind_toArray l i
    rw [e0]
    cases hdi : dstAt l i with
    | none => exact ih
    | some t =>
     obtain ⟨v,hv1,hv2⟩ := I.val i t (by omega) (hall i (by omega)) hdi
     have : a.tmps.getD t undef = v := by simp [hv1]
     simp only [putD,Act.put,this]
     simpa using RdL.set hv2 ih t
  have ea : a = putV l.toArray (fun k => match dstAt l k with | some t => a.tmps.getD t undef | none => undef) a0 n := by
   refine Fr.done (ops := l.toArray) (n := n) (m := ts.length) (listed := doneA n (l.toArray.size - n)) ⟨I.size,I.defers,fun t ht => I.other t fun i hi e' => ht i hi ((getElem?_bind_toArray l i).trans e'),fun i t hi hl ht => ?_⟩ hd hsz hall
   have ht' := (getElem?_bind_toArray l i).symm.trans ht
   obtain ⟨v,hv1,hv2⟩ := I.val i t hi (hall i hi) ht'
   simp [ht',hv1]
  have tan : TA Cy x (lputs l vs n ts) a := ⟨by rw [ea];exact tfin n (Nat.le_refl _),I.defers.trans ta.defers⟩
  have hlist := hk rfl _ _ _ (f1.trans I.fw) (by rw [hend];exact sp) tan
  simpa using hlist
 ·unfold leftH
  have : ((List.range n).filter fun i => !(Array.replicate l.toArray.size false).getD i true) = List.range n := List.filter_eq_self.2 fun i hi => by
   have := List.mem_range.1 hi
   have : i < l.length := by simp at hnsz;omega
   simp [this]
  rw [this,List.length_range]
end
section
variable {T : TP}
def ylist (T : TP) (ops : Array Oper) (R : D -> H -> Prop) : List Oper -> List D -> H -> (List D -> H -> Prop) -> Prop
 | [],ts,h,K => K ts h
 | o :: rest,ts,h,K => match o.guard with
  | none => yop T (ownB ops o) (dv ts) o h R fun d h' => ylist T ops R rest (putD ts o.dst d) h' K
  | some (j,want) => match (ops[j]?).bind (·.dst) with
   | some t => match ts[t]? with
    | some (.raw (.bool b)) => gcase b want (fun _ => yop T (ownB ops o) (dv ts) o h R fun d h' => ylist T ops R rest (putD ts o.dst d) h' K) (fun _ => ylist T ops R rest (putD ts o.dst (.raw undef)) h K)
    | some (.raw (.tuple _)) => ylist T ops R rest (putD ts o.dst (.raw undef)) h K
    | _ => False
   | none => ylist T ops R rest (putD ts o.dst (.raw undef)) h K
theorem ylist_sound {ops : Array Oper} {R : D -> H -> Prop} {Q : Exit -> Act -> World -> Prop} : ∀ {l : List Oper} {ts : List D} {h : H} {K : List D -> H -> Prop} {C : Cx} {w : World} {a : Act},ylist T ops R l ts h K -> Sim C h w -> TA C w ts a ->
  (∀ d h' a' C' w' v,R d h' -> Fw C w C' w' -> Sim C' h' w' -> Rd C' w' d v -> a'.defers = [] -> Q (.panic [{ v,recovered := false }]) a' w') ->
  (∀ ts' h' a' C' w',K ts' h' -> Fw C w C' w' -> Sim C' h' w' -> TA C' w' ts' a' -> Q .normal a' w') -> wpList (T ()) ops Q l a w
 | [],ts,h,K,C,w,a,e,s,ta,hp,hk => hk ts h a C w e (Fw.refl _ _) s ta
 | o :: rest,ts,h,K,C,w,a,e,s,ta,hp,hk => by
  unfold wpList
  have yes : wantedD ops ts o = some true -> yop T (ownB ops o) (dv ts) o h R (fun d h' => ylist T ops R rest (putD ts o.dst d) h' K) -> wpList (T ()) ops Q (o :: rest) a w := fun hw e1 => by
   unfold wpList
   rw [wantedD_sound ta hw]
   refine .inl (yop_sound s ta.reads e1 (fun d h' v C' w' e2 f s' r => ?_) fun d h' v C' w' q f s' r => hp d h' a C' w' v q f s' r ta.defers)
   exact ylist_sound e2 s' ((ta.mono f.toEv).put r _) (fun d h' a' C' w' v q f' s' r hd => hp d h' a' C' w' v q (f.trans f') s' r hd) fun ts2 h2 a' C2 w2 k f2 s2 t2 => hk ts2 h2 a' C2 w2 k (f.trans f2) s2 t2
  have no : wantedD ops ts o = some false -> ylist T ops R rest (putD ts o.dst (.raw undef)) h K -> wpList (T ()) ops Q (o :: rest) a w := fun hw e1 => by
   unfold wpList
   rw [wantedD_sound ta hw]
   exact ylist_sound e1 s (ta.put (show Rd C w (.raw undef) undef from rfl) _) hp hk
  have main : wpList (T ()) ops Q (o :: rest) a w := by
   simp only [ylist] at e
   split at e
   ·rename_i hg
    exact yes (by simp only [wantedD,hg]) e
   ·rename_i j want hg
    split at e
    ·rename_i t ht
     split at e
     ·rename_i b hb
      have hw : wantedD ops ts o = some (b == want) := by simp only [wantedD,hg,ht,hb]
      have e := gcase_eq e
      split at e
      ·rename_i hbw
       exact yes (by rw [hw,hbw]) e
      ·rename_i hbw
       exact no (by rw [hw];simpa using hbw) e
     ·rename_i x hb
      exact no (by simp only [wantedD,hg,ht,hb]) e
     ·exact e.elim
    ·rename_i ht
     exact no (by simp only [wantedD,hg,ht]) e
  unfold wpList at main
  exact main
structure XTCallK (T : TP) (k : FuncId) (ds : List D) (h : H) (K : D -> H -> Prop) (N : (D -> H -> Prop) -> Prop) : Prop where
 out : TCallK T k ds h K ∨ ∃ R,CX (T ()) k ds h (fun b d h' => b = false ∧ R d h') ∧ N R
def xstep (T : TP) (l : List Oper) (n : Nat) (ts vs : List D) (h : H) (o : Oper) (K : D -> H -> Prop) (N : (D -> H -> Prop) -> Prop) : Prop :=
 match o.guard,o.op with
 | none,.call c => match c.callee with
  | .value f => match fnD (lval l n ts vs o f) with
   | some (k,first,cap) => XTCallK T k (first ++ c.args.toList.map (lval l n ts vs o) ++ cap) h K N
   | none => False
  | _ => wtstep T l n ts vs h o K
 | _,_ => wtstep T l n ts vs h o K
structure XDoneK (T : TP) (l : List Oper) (n : Nat) (ts vs : List D) (hst : List H) (free : List Nat) (go : Unit -> Prop) : Prop where
 out : ordX l n n free = true ∧ FreeX (T ()) l n n ts vs hst free ∧ go ()
structure XPanK (T : TP) (l : List Oper) (n : Nat) (ts vs : List D) (hst : List H) (free : List Nat) (R R0 : D -> H -> Prop) : Prop where
 out : (vs.length < n ∧ ordX l n (min (vs.length + 1) n) free = true ∧ ((List.range n).all fun k => decide (k ≤ vs.length) || ((ancL l n n).getD k []).contains vs.length) = true) ∧ FreeX (T ()) l n vs.length ts vs hst free ∧ ∀ d h',R0 d h' -> R d h'
def xrun (T : TP) (l : List Oper) (n : Nat) (ts : List D) (free : List Nat) (R : D -> H -> Prop) (K : List D -> H -> Prop) : Nat -> List D -> List H -> H -> Prop
 | 0,vs,hst,h => XDoneK T l n ts vs hst free fun _ => ylist T l.toArray R (l.drop n) (lputs l vs n ts) h K
 | r + 1,vs,hst,h => match l[vs.length]? with
  | some o => xstep T l n ts vs h o (fun d h' => xrun T l n ts free R K r (vs ++ [d]) (hst ++ [h']) h') (XPanK T l n ts vs hst free R)
  | none => False
theorem xstep_ok {l : List Oper} {n : Nat} {ts vs : List D} {h : H} {o : Oper} {K : D -> H -> Prop} {N : (D -> H -> Prop) -> Prop} (e : xstep T l n ts vs h o K N) :
  (∃ d h',TStep (T ()) l n ts vs h o d h' ∧ K d h') ∨ ∃ R,(isTurn o = true ∧ lwanted l vs o = some true ∧ PanicsP (T ()) (lval l n ts vs o) o h R) ∧ N R := by
 unfold xstep at e
 split at e
 ·rename_i c hg ho
  split at e
  ·rename_i f hc
   split at e
   ·rename_i k first cap hf
    have hw : lwanted l vs o = some true := by simp only [lwanted,hg]
    have hturn : isTurn o = true := by
     unfold isTurn
     rw [ho]
     simp only [hc]
    rcases e.out with e | ⟨R,⟨hcal,hret⟩,hN⟩
    ·refine .inl (wtstep_ok ?_)
     unfold wtstep
     simp only [hg,hturn,if_true]
     unfold wturn
     rw [if_neg (by rw [ho];simp [isBoxOp])]
     simp only [ho,hc,hf]
     exact e
    ·refine .inr ⟨R,⟨hturn,hw,⟨fun C w a s hr Rw Q hq => ?_⟩⟩,hN⟩
     obtain ⟨callee,args,argTypes⟩ := c
     simp only at hc
     subst hc
     obtain ⟨x,y,hev,hargs⟩ := call_args (args := args) hr hf
     unfold Oper.wp
     rw [call_run ho hev hcal,Oper.upon_enter]
     refine Calls.mono (hret C w _ s hargs) ?_
     rintro e' w' ⟨b,v,C',d,h',rfl,⟨rfl,k0⟩,k1,k2,k3⟩
     exact hq d h' v C' w' k0 k1 k2 k3
   ·exact e.elim
  ·exact .inl (wtstep_ok e)
 ·exact .inl (wtstep_ok e)
theorem xrun_ok (hm : (T ()).follows .mixedOrders = true) {l : List Oper} {n : Nat} {ts : List D} {free : List Nat} {R : D -> H -> Prop} {K : List D -> H -> Prop} (h4 : headB .any l.toArray n = true ∧ dstsB l.toArray n ts.length = true ∧ waitsB l n = true) {h0 : H} :
  ∀ {r : Nat} {vs : List D} {hst : List H} {h : H},xrun T l n ts free R K r vs hst h -> vs.length + r = n -> hst.length = vs.length + 1 -> hst.getD 0 [] = h0 -> hst.getD vs.length [] = h ->
  (∀ i,i < vs.length -> ∃ o d,l[i]? = some o ∧ vs[i]? = some d ∧ TStep (T ()) l n ts (vs.take i) (hst.getD i []) o d (hst.getD (i + 1) [])) ->
  ∀ (id : Nat) {C : Cx} {w : World} {a0 : Act} {Q : Exit -> Act -> World -> Prop},Sim C h0 w -> TA C w ts a0 ->
  (∀ d h' a' C' w' v,R d h' -> Fw C w C' w' -> Sim C' h' w' -> Rd C' w' d v -> a'.defers = [] -> Q (.panic [{ v,recovered := false }]) a' w') ->
  (∀ ts' h' a' C' w',K ts' h' -> Fw C w C' w' -> Sim C' h' w' -> TA C' w' ts' a' -> Q .normal a' w') -> (Code.region id l.toArray true).wp (T ()) Q a0 w
 | 0,vs,hst,h,e,hn,hl,hz,hh,hsp => fun id {C w a0 Q} s ta hp hk => by
  have hvn : vs.length = n := by omega
  obtain ⟨h5,h6,h7⟩ := e.out
  refine aturnX_core (Rp := R) hm (Nat.le_refl n) ⟨hvn,by omega,hz,fun i hi => hsp i (by omega)⟩ ⟨h4.1,h4.2.1,h4.2.2,by rw [Nat.min_eq_right (Nat.le_succ n)];exact h5⟩ h6 (fun h => absurd h (Nat.lt_irrefl _)) id s ta hp fun _ a' C' w' f' s' t' => ?_
  rw [← hvn,hh] at s'
  exact ylist_sound h7 s' t' (fun d h' a' C' w' v q f2 s2 r hd => hp d h' a' C' w' v q (f'.trans f2) s2 r hd) fun ts' h' a' C' w' k f2 s2 t2 => hk ts' h' a' C' w' k (f'.trans f2) s2 t2
 | r + 1,vs,hst,h,e,hn,hl,hz,hh,hsp => fun id {C w a0 Q} s ta hp hk => by
  simp only [xrun] at e
  split at e
  ·rename_i o ho
   rcases xstep_ok e with ⟨d,h',k1,k2⟩ | ⟨R0,⟨q1,q2,q3⟩,q4⟩
   ·have keep : ∀ q,q < vs.length + 1 -> (hst ++ [h']).getD q [] = hst.getD q [] := fun q hq => by simp [List.getD,List.getElem?_append_left (show q < hst.length by omega)]
    have last : (hst ++ [h']).getD (vs.length + 1) [] = h' := by simp [List.getD,List.getElem?_append_right (show hst.length ≤ vs.length + 1 by omega),hl]
    refine xrun_ok hm h4 (h0 := h0) k2 (by simp;omega) (by simp [hl]) (by rw [keep 0 (by omega)];exact hz) (by simpa using last) (fun i hi => ?_) id s ta hp hk
    by_cases hlt : i < vs.length
    ·obtain ⟨o',d',j1,j2,j3⟩ := hsp i hlt
     refine ⟨o',d',j1,by rw [List.getElem?_append_left hlt];exact j2,?_⟩
     rw [List.take_append_of_le_length (by omega),keep i (by omega),keep (i + 1) (by omega)]
     exact j3
    ·have : i = vs.length := by simp at hi;omega
     subst this
     refine ⟨o,d,ho,by rw [List.getElem?_append_right (Nat.le_refl _)];simp,?_⟩
     rw [List.take_append_of_le_length (Nat.le_refl _),List.take_of_length_le (Nat.le_refl _),keep _ (by omega),last,hh]
     exact k1
   ·obtain ⟨⟨h5,h6,h7⟩,h8,h9⟩ := q4.out
    refine aturnX_core (Rp := R0) hm (Nat.le_of_lt h5) ⟨rfl,hl,hz,hsp⟩ ⟨h4.1,h4.2.1,h4.2.2,h6⟩ h8 (fun _ => ⟨⟨o,ho,q1,q2,by rw [hh];exact q3⟩,fun k hk1 hk2 => ?_⟩) id s ta (fun d h' a' C' w' v q f' s' r hd => hp d h' a' C' w' v (h9 d h' q) f' s' r hd) fun hmn => absurd hmn (by omega)
    have := List.all_eq_true.1 h7 k (List.mem_range.2 hk2)
    simp only [Bool.or_eq_true,decide_eq_true_eq] at this
    exact this.resolve_left (by omega)
  ·exact e.elim
structure YDrawK (T : TP) (l : List Oper) (ts : List D) (h : H) (R : D -> H -> Prop) (K : List D -> H -> Prop) : Prop where
 out : DrawK T l ts h K ∨ ∃ n free,(headB .any l.toArray n = true ∧ dstsB l.toArray n ts.length = true ∧ waitsB l n = true) ∧ xrun T l n ts free R K n [] [h] h
def statX (l : List Oper) (n : Nat) : Bool := headB .any l.toArray n && waitsB l n
theorem YDrawK.turn {l : List Oper} {ts : List D} {h : H} {R : D -> H -> Prop} {K : List D -> H -> Prop} (j : Nat) (free : List Nat) (hs : statX l (l.length - j) = true) (hd : dstsB l.toArray (l.length - j) ts.length = true)
  (k : xrun T l (l.length - j) ts free R K (l.length - j) [] [h] h) : YDrawK T l ts h R K := by
 simp only [statX,Bool.and_eq_true] at hs
 exact ⟨.inr ⟨l.length - j,free,⟨hs.1,hd,hs.2⟩,k⟩⟩
theorem FreeX.one {P : Program} {l : List Oper} {n m : Nat} {ts vs : List D} {hst : List H} {i : Nat} {o : Oper} {d : D} (ho : l[i]? = some o) (hd : vs[i]? = some d) (hl : hst.length = m + 1) (hall : ∀ h' ∈ hst,sop P (lval l n ts (vs.take i) o) o h' = some d) : FreeX P l n m ts vs hst [i] := fun k _ hk p hp => by
 have hki : k = i := by simpa using hk
 subst hki
 refine ⟨o,d,ho,hd,hall _ ?_⟩
 have : p < hst.length := by omega
 simp only [List.getD,List.getElem?_eq_getElem this,Option.getD_some]
 exact List.getElem_mem _
def yx (T : TP) (R : D -> H -> Prop) : Code -> List D -> H -> (AExit -> List D -> H -> Prop) -> Prop
 | .skip,ts,h,Q => Q .normal ts h
 | .region _ ops draw,ts,h,Q => if draw = true then (if lineFirst ops.toList = true then LineK T ops.toList ts h (fun ts' h' => Q .normal ts' h') else YDrawK T ops.toList ts h R (fun ts' h' => Q .normal ts' h')) else ylist T ops R ops.toList ts h (fun ts' h' => Q .normal ts' h')
 | .seq a b,ts,h,Q => yx T R a ts h fun ex ts' h' => match ex with
  | .normal => yx T R b ts' h' Q
  | .exit j => Q (.exit j) ts' h'
  | .ret => Q .ret ts' h'
 | .cond c x y,ts,h,Q => match dv ts c with
  | .raw (.bool t) => bcase t (fun _ => yx T R x ts h Q) (fun _ => yx T R y ts h Q)
  | _ => False
 | .block id c,ts,h,Q => yx T R c ts h fun ex ts' h' => match ex with
  | .normal => Q .normal ts' h'
  | .exit j => if j = id then Q .normal ts' h' else Q (.exit j) ts' h'
  | .ret => Q .ret ts' h'
 | .loop c,ts,h,Q => LoopK (dstsOf c) (scrub (dstsOf c) ts) h (fun ts' h' R' => yx T R c ts' h' R') Q
 | .exit id,ts,h,Q => Q (.exit id) ts h
 | .label _,ts,h,Q => Q .normal ts h
 | .ret,ts,h,Q => Q .ret ts h
 | _,_,_,_ => False
theorem yx_sound (hm : (T ()).follows .mixedOrders = true) {R : D -> H -> Prop} : ∀ (c : Code) {ts : List D} {h : H} {K : AExit -> List D -> H -> Prop},yx T R c ts h K -> ∀ {C : Cx} {w : World} {a : Act} {Q : Exit -> Act -> World -> Prop},Sim C h w -> TA C w ts a ->
  (∀ d h' a' C' w' v,R d h' -> Fw C w C' w' -> Sim C' h' w' -> Rd C' w' d v -> a'.defers = [] -> Q (.panic [{ v,recovered := false }]) a' w') -> (∀ ex ts' h' a' C' w',K ex ts' h' -> Fw C w C' w' -> Sim C' h' w' -> TA C' w' ts' a' -> Q ex.ex a' w') -> c.wp (T ()) Q a w := by
 intro c
 induction c with
 | skip => intro ts h K e C w a Q s ta hp hk;exact wp_skip (hk _ _ _ a C w e (Fw.refl _ _) s ta)
 | region id ops draw =>
  intro ts h K e C w a Q s ta hp hk
  simp only [yx] at e
  cases draw with
  | false =>
   rw [if_neg (by simp)] at e
   exact wp_region_list (ylist_sound e s ta hp fun ts' h' a' C' w' k f' s' t' => hk _ _ _ a' C' w' k f' s' t')
  | true =>
   rw [if_pos rfl] at e
   split at e
   ·obtain ⟨n,h4,e⟩ := e.out
    obtain ⟨vs,hst,k1,k2⟩ := wlrun_ok (h0 := h) e (by simp) (by simp) (by simp) (by simp) (fun i hi => absurd hi (Nat.not_lt_zero _))
    have := aline_core hm k1 h4 id s ta fun a1 C1 w1 f1 s1 t1 => wlist_sound k2 s1 t1 fun ts' h' a' C' w' k f' s' t' => hk _ _ _ a' C' w' k (f1.trans f') s' t'
    simpa using this
   ·rename_i hnl
    rcases e.out with e | ⟨n,free,h4,e⟩
    ·skip
     exact wx_sound hm (.region id ops true) (K := K) (by simp only [wx];rw [if_pos trivial,if_neg hnl];exact e) s ta hk
    ·have := xrun_ok hm h4 (h0 := h) e (by simp) (by simp) (by simp) (by simp) (fun i hi => absurd hi (Nat.not_lt_zero _)) id s ta hp fun ts' h' a' C' w' k f' s' t' => hk _ _ _ a' C' w' k f' s' t'
     simpa using this
 | seq x y ihx ihy =>
  intro ts h K e C w a Q s ta hp hk
  simp only [yx] at e
  refine wp_seq (ihx e s ta (fun d h' a' C' w' v q f' s' r hd => hp d h' a' C' w' v q f' s' r hd) fun ex ts1 h1 a1 C1 w1 k f1 s1 t1 => ?_)
  cases ex with
  | normal => exact ihy k s1 t1 (fun d h' a' C' w' v q f' s' r hd => hp d h' a' C' w' v q (f1.trans f') s' r hd) fun ex ts' h' a' C' w' k' f' s' t' => hk ex ts' h' a' C' w' k' (f1.trans f') s' t'
  | exit j => exact hk _ _ _ a1 C1 w1 k f1 s1 t1
  | ret => exact hk _ _ _ a1 C1 w1 k f1 s1 t1
 | cond c x y ihx ihy =>
  intro ts h K e C w a Q s ta hp hk
  simp only [yx] at e
  split at e
  ·rename_i t hc
   have hcv := ta.reads c
   rw [hc] at hcv
   simp only [Rd] at hcv
   have e := bcase_eq e
   refine wp_cond_split hcv (fun ht => ?_) fun ht => ?_
   ·subst ht
    rw [if_pos rfl] at e
    exact ihx e s ta hp hk
   ·subst ht
    rw [if_neg (by simp)] at e
    exact ihy e s ta hp hk
  ·exact e.elim
 | block id c ih =>
  intro ts h K e C w a Q s ta hp hk
  simp only [yx] at e
  refine wp_block (ih e s ta (fun d h' a' C' w' v q f' s' r hd => hp d h' a' C' w' v q f' s' r hd) fun ex ts1 h1 a1 C1 w1 k f1 s1 t1 => ?_)
  cases ex with
  | normal => exact hk _ _ _ a1 C1 w1 k f1 s1 t1
  | exit j =>
   simp only at k
   by_cases hj : j = id
   ·rw [if_pos hj] at k
    simp only [AExit.ex,Exit.inBlock,if_pos hj]
    exact hk _ _ _ a1 C1 w1 k f1 s1 t1
   ·rw [if_neg hj] at k
    simp only [AExit.ex,Exit.inBlock,if_neg hj]
    exact hk _ _ _ a1 C1 w1 k f1 s1 t1
  | ret => exact hk _ _ _ a1 C1 w1 k f1 s1 t1
 | loop c ih =>
  intro ts h K e C w a Q s ta hp hk
  simp only [yx] at e
  obtain ⟨m,I,he,hr⟩ := e.out
  obtain ⟨C1,ts1,h1,⟨hlen,N,hI⟩,f1,s1,t1⟩ := he C w a s (ta.scrub _)
  have hb0 : ∀ id b,C1.bx id = some b -> id < m := fun id b hb => Nat.lt_of_lt_of_le (s1.idb id b hb) hlen
  have hl0 : ∀ id u,C1.lg id = some u -> id < m := fun id u hu => Nat.lt_of_lt_of_le (s1.idl id u hu) hlen
  have main : ∀ (n N : Nat) (ts : List D) (h : H) (C2 : Cx) (w2 : World) (a2 : Act),N < n -> I N ts h -> Fw C1 w C2 w2 -> Sim C2 h w2 -> TA C2 w2 ts a2 -> Code.rounds (T ()) c Q n a2 w2 := by
   intro n
   induction n with
   | zero => intro N ts h C2 w2 a2 hN;omega
   | succ n ihn =>
    intro N ts h C2 w2 a2 hN hI f2 s2 t2
    unfold Code.rounds
    refine ih (hr N ts h hI) s2 t2 (fun d h' a' C' w' v q f' s' r hd => hp d h' a' C' w' v q (f1.trans (f2.trans f')) s' r hd) fun ex ts3 h3 a3 C3 w3 k f3 s3 t3 => ?_
    cases ex with
    | normal =>
     obtain ⟨N',hN',hw⟩ := k.out
     obtain ⟨C4,ts4,h4,k1,k2,k3,k4⟩ := hw C1 w C3 w3 a3 hb0 hl0 (f2.trans f3) s3 (t3.scrub _)
     exact ihn N' ts4 h4 C4 w3 a3 (by omega) k1 k2 k3 k4
    | exit j => exact hk _ _ _ a3 C3 w3 k (f1.trans (f2.trans f3)) s3 t3
    | ret => exact hk _ _ _ a3 C3 w3 k (f1.trans (f2.trans f3)) s3 t3
  exact wp_loop_rounds (N + 1) (main (N + 1) N ts1 h1 C1 w a (by omega) hI (Fw.refl _ _) s1 t1)
 | exit id => intro ts h K e C w a Q s ta hp hk;exact wp_exit (hk _ _ _ a C w e (Fw.refl _ _) s ta)
 | label l => intro ts h K e C w a Q s ta hp hk;exact wp_label (hk _ _ _ a C w e (Fw.refl _ _) s ta)
 | ret => intro ts h K e C w a Q s ta hp hk;exact wp_ret (hk _ _ _ a C w e (Fw.refl _ _) s ta)
 | _ => intros;rename_i e _ _ _ _ _ _ _ _;simp [yx] at e
def yfun (T : TP) (k : FuncId) (ds : List D) (h : H) (Q : Bool -> D -> H -> Prop) : Prop :=
 match (T ()).funcs[k]? with
 | some fn => match fn.body with
  | some c => if (fn.name == "runtime.NumGoroutine") = false then
    yx T (fun d h' => EndK (Q false) d h') c (ds ++ List.replicate (fn.ntmps - ds.length) (.raw undef)) h fun ex ts' h' => match ex with
     | .exit _ => False
     | _ => match resD (T ()) h' ts' fn.results.toList with
      | some l => EndK (Q true) (oneD l) h'
      | none => False
   else False
  | none => False
 | none => False
theorem yfun_ok (hm : (T ()).follows .mixedOrders = true) {k : FuncId} {ds : List D} {h : H} {K : Bool -> D -> H -> Prop} (e : yfun T k ds h K) : CX (T ()) k ds h K := by
 unfold yfun at e
 split at e
 ·rename_i fn hf
  split at e
  ·rename_i c hb
   split at e
   ·rename_i hname
    refine ⟨⟨fn,c,hf,hname,hb⟩,fun C w args s r => ?_⟩
    refine calls_of_wp hf hb (yx_sound hm c e s (a := { tmps := args.toArray ++ Array.replicate (fn.ntmps - args.toArray.size) undef,defers := [] }) ⟨?_,rfl⟩ (fun d h' a' C' w' v q f' s' r' hd => ⟨hd,false,v,C',d,h',rfl,q.out,f',s',r'⟩) fun ex ts' h' a' C' w' k f' s' t' => ?_)
    ·have hl := r.len
     simp only [Array.toList_append,Array.toList_replicate,List.size_toArray,← hl]
     refine r.app ?_
     have := RdL.raws C w (List.replicate (fn.ntmps - ds.length) undef)
     simpa using this
    ·have main : (match resD (T ()) h' ts' fn.results.toList with | some l => EndK (K true) (oneD l) h' | none => False) -> bodyPost (T ()) fn (fun e w'' => ∃ b v C'' d h',e = endOf b v ∧ K b d h' ∧ Fw C w C'' w'' ∧ Sim C'' h' w'' ∧ Rd C'' w'' d v) .ret a' w' := fun k => by
      split at k
      ·rename_i l hl
       obtain ⟨vs,k1,k2⟩ := resD_sound s' t' hl
       exact ⟨t'.defers,_,run_results k1,true,_,C',_,h',rfl,k.out,f',s',oneD_rd k2⟩
      ·exact k.elim
     cases ex with
     | normal => exact main k
     | ret => exact main k
     | exit j => exact k.elim
   ·exact e.elim
  ·exact e.elim
 ·exact e.elim
end
theorem CX.frame {P : Program} {k : FuncId} {ds0 ds : List D} {h0 h : H} {Q0 : Bool -> D -> H -> Prop} (f : Nat -> Nat) (c : CX P k ds0 h0 Q0)
  (hds : ds = renL f ds0) (hid : idbL h0.length ds0 = true) (hcells : h0.all (cellIdb h0.length) = true) (hinj : ∀ i j,i < h0.length -> j < h0.length -> f i = f j -> i = j)
  (hh : ∀ i,i < h0.length -> (h0[i]?).map (renC f) = h[f i]?)
  (hq : ∀ bo d h',Q0 bo d h' -> h'.length = h0.length ∧ idb h0.length d = true ∧ h'.all (cellIdb h0.length) = true) :
  CX P k ds h fun bo d h' => ∃ d0 h0',Q0 bo d0 h0' ∧ d = renD f d0 ∧ h' = mergeH f h h0' := by
 refine ⟨c.1,fun C w args s r => ?_⟩
 let C0 : Cx := ⟨C.S,fun i => if i < h0.length then C.bx (f i) else none,fun i => if i < h0.length then C.lg (f i) else none⟩
 have hren : RenCx f h0.length C0 C := ⟨fun _ _ => Iff.rfl,fun i hi => if_pos hi,fun i hi => if_pos hi⟩
 have hblk : ∀ {i b},C0.blk i b -> i < h0.length ∧ C.blk (f i) b := fun {i b} hb => by
  rcases hb with hb | ⟨u,hb,hu⟩
  ·simp only [C0] at hb
   split at hb
   ·rename_i hi;exact ⟨hi,.inl hb⟩
   ·cases hb
  ·simp only [C0] at hb
   split at hb
   ·rename_i hi;exact ⟨hi,.inr ⟨u,hb,hu⟩⟩
   ·cases hb
 have hcell : ∀ {i c},h0[i]? = some c -> cellIdb h0.length c = true := fun {i c} e => List.all_eq_true.1 hcells c (List.mem_of_getElem? e)
 have hlt0 : ∀ {i c},h0[i]? = some c -> i < h0.length := fun {i c} e => (List.getElem?_eq_some_iff.1 e).1
 have s0 : Sim C0 h0 w := by
  refine ⟨s.S,fun i t ds e => ?_,fun i e sz n e' => ?_,fun i b hb => s.lt _ b (hblk hb).2,fun i b hb => (hblk (.inl hb)).1,fun i u hu => ?_,fun i j b hi hj => ?_,fun i b hb => ?_,fun i b P e => ?_⟩
  ·have := hh i (hlt0 e)
   rw [e] at this
   obtain ⟨b,vs,k1,k2,k3,k4,k5⟩ := s.box (f i) t _ this.symm
   exact ⟨b,vs,(hren.bx i (hlt0 e)).trans k1,k2,(ren_rdL hren ds (by have := hcell e;simpa [cellIdb] using this)).2 k3,k4,k5⟩
  ·have := hh i (hlt0 e')
   rw [e'] at this
   obtain ⟨u,xs,k1,k2,k3⟩ := s.log (f i) e sz n this.symm
   exact ⟨u,xs,(hren.lg i (hlt0 e')).trans k1,k2,k3⟩
  ·simp only [C0] at hu
   split at hu
   ·assumption
   ·cases hu
  ·obtain ⟨h1,h2⟩ := hblk hi
   obtain ⟨h3,h4⟩ := hblk hj
   exact hinj i j h1 h3 (s.inj _ _ b h2 h4)
  ·have hi := (hblk (.inl hb)).1
   rw [hren.bx i hi] at hb
   rw [hren.lg i hi]
   exact s.one _ b hb
  ·have := hh i (hlt0 e)
   rw [e] at this
   obtain ⟨k1,k2,k3⟩ := s.keep (f i) b P this.symm
   exact ⟨(hren.bx i (hlt0 e)).trans k1,k2,k3⟩
 rw [hds] at r
 refine (c.2 C0 w args s0 ((ren_rdL hren ds0 hid).2 r)).mono ?_
 rintro e w' ⟨bo,v,C0',d0,h0',he,hQ,fw,s0',r0⟩
 obtain ⟨hlen,hdid,hcid⟩ := hq bo d0 h0' hQ
 let C' : Cx := ⟨C0'.S,fun id => match idxOf f id h0.length with | some i => C0'.bx i | none => C.bx id,fun id => match idxOf f id h0.length with | some i => C0'.lg i | none => C.lg id⟩
 have idx : ∀ i,i < h0.length -> idxOf f (f i) h0.length = some i := fun i hi => by
  cases hx : idxOf f (f i) h0.length with
  | none => exact absurd rfl (idxOf_none hx i hi)
  | some j =>
   obtain ⟨h1,h2⟩ := idxOf_some hx
   rw [hinj j i h1 hi h2]
 have hren' : RenCx f h0.length C0' C' := ⟨fun _ _ => Iff.rfl,fun i hi => by simp only [C',idx i hi],fun i hi => by simp only [C',idx i hi]⟩
 have blk' : ∀ {id b},C'.blk id b -> (∃ i,i < h0.length ∧ f i = id ∧ C0'.blk i b) ∨ ((∀ i,i < h0.length -> f i ≠ id) ∧ C.blk id b) := fun {id b} hb => by
  cases hx : idxOf f id h0.length with
  | none =>
   refine .inr ⟨idxOf_none hx,?_⟩
   rcases hb with hb | ⟨u,hb,hu⟩
   ·simp only [C',hx] at hb;exact .inl hb
   ·simp only [C',hx] at hb;exact .inr ⟨u,hb,hu⟩
  | some i =>
   obtain ⟨h1,h2⟩ := idxOf_some hx
   refine .inl ⟨i,h1,h2,?_⟩
   rcases hb with hb | ⟨u,hb,hu⟩
   ·simp only [C',hx] at hb;exact .inl hb
   ·simp only [C',hx] at hb;exact .inr ⟨u,hb,hu⟩
 have apart : ∀ {id b},C.blk id b -> (∀ i,i < h0.length -> f i ≠ id) -> ∀ i,¬ C0.blk i b := fun {id b} hb hne i hi => by
  obtain ⟨h1,h2⟩ := hblk hi
  exact hne i h1 (s.inj _ _ b h2 hb)
 have stands : ∀ {id b},C.blk id b -> (∀ i,i < h0.length -> f i ≠ id) -> w'.heap[b]? = w.heap[b]? := fun {id b} hb hne => fw.frame b (s.lt id b hb) (apart hb hne)
 have noS : ∀ {id b},C.blk id b -> (∀ i,i < h0.length -> f i ≠ id) -> ∀ o,C0'.S b o -> C.S b o := fun {id b} hb hne o hs => by
  rcases fw.new b o hs (s.lt id b hb) with h1 | ⟨i,h1⟩
  ·exact h1
  ·exact absurd h1 (apart hb hne i)
 have ev : Ev C w C' w' := by
  refine ⟨fw.os,fw.tape,fw.output,fw.size,fun b o hs => fw.sub b o hs,fun b o hs => fw.cell b o hs,fun id b hb => ?_,fun id u hu => ?_⟩
  ·cases hx : idxOf f id h0.length with
   | none => simp only [C',hx];exact hb
   | some i =>
    obtain ⟨h1,rfl⟩ := idxOf_some hx
    simp only [C',hx]
    exact fw.bx i b ((hren.bx i h1).trans hb)
  ·cases hx : idxOf f id h0.length with
   | none => simp only [C',hx];exact ⟨u,hu,.inl rfl⟩
   | some i =>
    obtain ⟨h1,rfl⟩ := idxOf_some hx
    simp only [C',hx]
    exact fw.lg i u ((hren.lg i h1).trans hu)
 have fw' : Fw C w C' w' := by
  refine ⟨ev,fun b hb hn => fw.frame b hb fun i hi => hn _ (hblk hi).2,fun id b hk hb => ?_,fun b o hs hb => ?_⟩
  ·rcases blk' hk with ⟨i,h1,h2,h3⟩ | ⟨_,h1⟩
   ·obtain ⟨i',h4⟩ := fw.own i b h3 hb
    exact ⟨_,(hblk h4).2⟩
   ·exact ⟨id,h1⟩
  ·rcases fw.new b o hs hb with h1 | ⟨i,h1⟩
   ·exact .inl h1
   ·exact .inr ⟨_,(hblk h1).2⟩
 have hmlen : (mergeH f h h0').length = h.length := by simp [mergeH]
 have fid : ∀ {i},i < h0.length -> f i < h.length := fun {i} hi => by
  have := hh i hi
  rw [List.getElem?_eq_getElem hi] at this
  exact (List.getElem?_eq_some_iff.1 this.symm).1
 refine ⟨bo,v,C',renD f d0,mergeH f h h0',he,⟨d0,h0',hQ,rfl,rfl⟩,fw',⟨s0'.S,fun id t ds e => ?_,fun id e sz n e' => ?_,fun id b hb => ?_,fun id b hb => ?_,fun id u hu => ?_,fun id id' b hb hb' => ?_,fun id b hb => ?_,fun id b P e => ?_⟩,(ren_rd hren' d0 hdid).1 r0⟩
 ·rcases mergeH_get e with ⟨i,h1,rfl,c0,h2,h3⟩ | ⟨h1,h2⟩
  ·cases c0 with
   | log _ _ _ => cases h3
   | dead => cases h3
   | keep _ _ => cases h3
   | box t0 ds0' =>
    simp only [renC,Cell.box.injEq] at h3
    obtain ⟨rfl,rfl⟩ := h3
    obtain ⟨b,vs,k1,k2,k3,k4,k5⟩ := s0'.box i _ _ h2
    rw [hlen] at h1
    refine ⟨b,vs,(hren'.bx i h1).symm.trans k1,k2,(ren_rdL hren' ds0' ?_).1 k3,k4,k5⟩
    have := List.all_eq_true.1 hcid _ (List.mem_of_getElem? h2)
    simpa [cellIdb] using this
  ·rw [hlen] at h1
   obtain ⟨b,vs,k1,k2,k3,k4,k5⟩ := s.box id t ds h2
   have hx : idxOf f id h0.length = none := by
    cases hx : idxOf f id h0.length with
    | none => rfl
    | some i => obtain ⟨j1,j2⟩ := idxOf_some hx;exact absurd j2 (h1 i j1)
   refine ⟨b,vs,by simp only [C',hx];exact k1,(stands (.inl k1) h1).trans k2,k3.mono ev,k4,fun o hs => k5 o (noS (.inl k1) h1 o hs)⟩
 ·rcases mergeH_get e' with ⟨i,h1,rfl,c0,h2,h3⟩ | ⟨h1,h2⟩
  ·cases c0 with
   | box _ _ => cases h3
   | dead => cases h3
   | keep _ _ => cases h3
   | log e0 sz0 n0 =>
    simp only [renC,Cell.log.injEq] at h3
    obtain ⟨rfl,rfl,rfl⟩ := h3
    obtain ⟨u,xs,k1,k2,k3⟩ := s0'.log i _ _ _ h2
    rw [hlen] at h1
    exact ⟨u,xs,(hren'.lg i h1).symm.trans k1,k2,k3⟩
  ·rw [hlen] at h1
   obtain ⟨u,xs,k1,k2,k3⟩ := s.log id e sz n h2
   have hx : idxOf f id h0.length = none := by
    cases hx : idxOf f id h0.length with
    | none => rfl
    | some i => obtain ⟨j1,j2⟩ := idxOf_some hx;exact absurd j2 (h1 i j1)
   refine ⟨u,xs,by simp only [C',hx];exact k1,own_block k2 fun b hb => stands (.inr ⟨u,k1,hb⟩) h1,fun b o hu hs => k3 b o hu (noS (.inr ⟨u,k1,hu⟩) h1 o hs)⟩
 ·rcases blk' hb with ⟨i,h1,h2,h3⟩ | ⟨_,h1⟩
  ·exact s0'.lt i b h3
  ·exact Nat.lt_of_lt_of_le (s.lt id b h1) fw.size
 ·rw [hmlen]
  rcases blk' (.inl hb) with ⟨i,h1,rfl,h3⟩ | ⟨hne,h1⟩
  ·exact fid h1
  ·have hx : idxOf f id h0.length = none := by
    cases hx : idxOf f id h0.length with
    | none => rfl
    | some i => obtain ⟨j1,j2⟩ := idxOf_some hx;exact absurd j2 (hne i j1)
   simp only [C',hx] at hb
   exact s.idb id b hb
 ·rw [hmlen]
  cases hx : idxOf f id h0.length with
  | none => simp only [C',hx] at hu;exact s.idl id u hu
  | some i => obtain ⟨h1,rfl⟩ := idxOf_some hx;exact fid h1
 ·rcases blk' hb with ⟨i,h1,rfl,h3⟩ | ⟨hne,h1⟩
  ·rcases blk' hb' with ⟨i',h1',rfl,h3'⟩ | ⟨hne',h1'⟩
   ·rw [s0'.inj i i' b h3 h3']
   ·obtain ⟨j,hj⟩ := fw.own i b h3 (s.lt _ b h1')
    exact absurd hj (apart h1' hne' j)
  ·rcases blk' hb' with ⟨i',h1',rfl,h3'⟩ | ⟨hne',h1'⟩
   ·obtain ⟨j,hj⟩ := fw.own i' b h3' (s.lt _ b h1)
    exact absurd hj (apart h1 hne j)
   ·exact s.inj _ _ b h1 h1'
 ·cases hx : idxOf f id h0.length with
  | none => simp only [C',hx] at hb ⊢;exact s.one id b hb
  | some i => simp only [C',hx] at hb ⊢;exact s0'.one i b hb
 ·rcases mergeH_get e with ⟨i,h1,rfl,c0,h2,h3⟩ | ⟨h1,h2⟩
  ·cases c0 with
   | log _ _ _ => cases h3
   | dead => cases h3
   | box _ _ => cases h3
   | keep b0 P0 =>
    simp only [renC,Cell.keep.injEq] at h3
    obtain ⟨rfl,rfl⟩ := h3
    obtain ⟨k1,k2,k3⟩ := s0'.keep i _ _ h2
    rw [hlen] at h1
    exact ⟨(hren'.bx i h1).symm.trans k1,k2,k3⟩
  ·rw [hlen] at h1
   obtain ⟨k1,⟨x,k2,k3⟩,k4⟩ := s.keep id b P h2
   have hx : idxOf f id h0.length = none := by
    cases hx : idxOf f id h0.length with
    | none => rfl
    | some i => obtain ⟨j1,j2⟩ := idxOf_some hx;exact absurd j2 (h1 i j1)
   exact ⟨by simp only [C',hx];exact k1,⟨x,(stands (.inl k1) h1).trans k2,k3⟩,fun o hs => k4 o (noS (.inl k1) h1 o hs)⟩
theorem CX.ext {P : Program} {k : FuncId} {ds : List D} {h0 : H} {Q0 : Bool -> D -> H -> Prop} (c : CX P k ds h0 Q0) (rest : H) (hid : idbL h0.length ds = true) (hcells : h0.all (cellIdb h0.length) = true)
  (hq : ∀ bo d h',Q0 bo d h' -> h'.length = h0.length ∧ idb h0.length d = true ∧ h'.all (cellIdb h0.length) = true) : CX P k ds (h0 ++ rest) fun bo d h' => ∃ h0',Q0 bo d h0' ∧ h' = h0' ++ rest :=
 (c.frame (h := h0 ++ rest) id (renL_id ds).symm hid hcells (fun _ _ _ _ e => e) (fun i hi => by
  show _ = (h0 ++ rest)[i]?
  rw [List.getElem?_append_left hi]
  cases h0[i]? with
  | none => rfl
  | some c => simp only [Option.map_some,renC_id]) hq).mono fun bo d h' ⟨d0,h0',q,e1,e2⟩ => ⟨h0',by rw [e1,renD_id];exact q,by rw [e2];exact mergeH_id (hq _ _ _ q).1⟩
section
variable {P : Program}
theorem aturnX_any {l : List Oper} {n m : Nat} {ts : List D} {h : H} {vs : List D} {hst : List H} {free : List Nat} {Rp : D -> H -> Prop} (hmn : m ≤ n) (hr : XRun P l n m ts h vs hst) (hst4 : headB .any l.toArray n = true ∧ dstsB l.toArray n ts.length = true ∧ waitsB l n = true ∧ ordX l n (min (m + 1) n) free = true) (hfree : FreeX P l n m ts vs hst free)
  (hpan : m < n -> (∃ o,l[m]? = some o ∧ isTurn o = true ∧ lwanted l vs o = some true ∧ PanicsP P (lval l n ts vs o) o (hst.getD m []) Rp) ∧ ∀ k,m < k -> k < n -> ((ancL l n n).getD k []).contains m = true)
  {C : Cx} {w : World} {a0 : Act} {Q : Exit -> Act -> World -> Prop} (s : Sim C h w) (ta : TA C w ts a0)
  (hpq : ∀ d h' a' C' w' v,Rp d h' -> Fw C w C' w' -> Sim C' h' w' -> Rd C' w' d v -> a'.defers = [] -> Q (.panic [{ v,recovered := false }]) a' w')
  (hk : m = n -> ∀ a' C' w',Fw C w C' w' -> Sim C' (hst.getD n []) w' -> TA C' w' (lputs l vs n ts) a' -> wpList P l.toArray Q (l.drop n) a' w') : wpAny P .any l.toArray Q l.toArray.size (Array.replicate l.toArray.size false) a0 w.drew := by
 obtain ⟨hB,hd,hw,hord⟩ := hst4
 obtain ⟨hlen,hlen2,hz,hspec⟩ := hr
 obtain ⟨s1,f1⟩ := s.drew
 have ta1 := ta.mono f1.toEv
 have hnsz : n ≤ l.toArray.size := by
  simp only [headB,Bool.and_eq_true,decide_eq_true_eq] at hB
  exact hB.1.1.2
 have hsz : ts.length ≤ a0.tmps.size := by have := ta.rd.len;simp at this;omega
 have hdst : ∀ k k' t,k < n -> k' < n -> dstAt l k = some t -> dstAt l k' = some t -> k = k' := fun k k' t hkn hkn' e1 e2 => by
  by_cases hkk : k = k'
  ·exact hkk
  ·exact absurd ((getElem?_bind_toArray l k').trans e2) (dstsB_ne hd hkn hkn' hkk ((getElem?_bind_toArray l k).trans e1))
 have hdlt : ∀ k t,k < n -> dstAt l k = some t -> t < ts.length := fun k t hkn e1 => dstsB_lt hd hkn ((getElem?_bind_toArray l k).trans e1)
 have H := wpAny_inv (P := P) (md := .any) (ops := l.toArray) (n := n) (Q := Q) (Inv := fun listed a x => ∃ Cx',LInvX C w.drew l n m vs hst a0 listed a x Cx') hB ?_ ?_ n (Array.replicate l.toArray.size false) a0 w.drew
  ⟨by simp,fun j oj _ hl => (by rw [getD_replicate_false] at hl;cases hl),fun t _ ht => getD_in (by simpa using ht) (getD_replicate_false _ _)⟩ ?_
  ⟨C,Fw.refl _ _,rfl,rfl,⟨0,Nat.zero_le _,fun j o _ _ _ => ⟨fun hl => (by rw [getD_replicate_false] at hl;cases hl),fun h0 => absurd h0 (Nat.not_lt_zero _)⟩,by rw [hz];exact s1⟩,fun _ _ => rfl,fun k t _ hl => (by rw [getD_replicate_false] at hl;cases hl),fun k _ _ => getD_replicate_false _ _⟩
 ·rw [show n + (l.toArray.size - n) = l.toArray.size by omega] at H
  exact H
 ·
  rintro listed a x i inv hrd hi ⟨Cy,I⟩
  obtain ⟨hun,o,ho,hall⟩ := mem_ready.1 hrd
  have hoi : l[i]? = some o := by simpa using ho
  have hunf : listed.getD i false = false := getD_both hun
  have hisz : i < listed.size := by
   rw [inv.size]
   omega
  have hlw : ∀ k,waits l.toArray i k = true -> listed.getD k false = true := fun k hwk => by
   obtain ⟨oj,hoj,e',he',hbd,hon⟩ := Region.waitsFor_spec hwk
   have : oj = o := Option.some.inj (hoj.symm.trans ho)
   subst this
   have := hall e' he' hbd
   rwa [hon] at this
  have hclo : ∀ j k,waits l.toArray j k = true -> listed.getD j false = true -> listed.getD k false = true := fun j k hwk hl => by
   obtain ⟨oj,hoj,e',he',hbd,hon⟩ := Region.waitsFor_spec hwk
   have := inv.closed j oj hoj hl e' he' hbd
   rwa [hon] at this
  obtain ⟨hal,hanc⟩ := ancL_spec (n := n) hclo n
  have hlm : ∀ k,k < n -> listed.getD k false = true -> k < m := fun k hkn hl => by
   rcases Nat.lt_or_ge k m with h1 | h1
   ·exact h1
   ·rw [I.off k h1 hkn] at hl
    cases hl
  have him : i ≤ m := by
   rcases Nat.lt_or_ge m i with h1 | h1
   ·have h2 := (hpan (by omega)).2 i h1 hi
    have h3 := hanc i hi m (by simpa using h2) hlw
    have := hlm m (by omega) h3
    omega
   ·exact h1
  obtain ⟨p,hpn,hpw,sp⟩ := I.at_
  have hwi := List.all_eq_true.1 hw i (List.mem_range.2 hi)
  rw [hoi] at hwi
  simp only [Bool.and_eq_true] at hwi
  have ordS : ∀ j oj,j < m -> l[j]? = some oj -> isTurn oj = true -> i ≠ j -> (isTurn o = true ∨ (isLoad o = true ∧ free.contains i = false)) -> (if i < j then ((ancL l n n).getD j []).contains i else ((ancL l n n).getD i []).contains j) = true := fun j oj hj hoj hs hne hm => by
   have h1 := List.all_eq_true.1 hord j (List.mem_range.2 (by omega))
   rw [hoj] at h1
   simp only [hs,Bool.not_true,Bool.false_or] at h1
   have h2 := List.all_eq_true.1 h1 i (List.mem_range.2 (by omega))
   rw [hoi] at h2
   simp only [Bool.or_eq_true,decide_eq_true_eq,Bool.not_eq_true'] at h2
   rcases h2 with (h2 | h2) | h2
   ·exact absurd h2 hne
   ·rcases hm with hm | ⟨hm,hf⟩
    ·simp [hm] at h2
    ·rw [hm,hf] at h2
     simp at h2
   ·exact h2
  have here : (isTurn o = true ∨ (isLoad o = true ∧ free.contains i = false)) -> hst.getD p [] = hst.getD i [] := fun hmem => by
   rcases Nat.le_total p i with hpi | hip
   ·refine (hst_sameX hspec hpi (by omega) fun j oj h1 h2 h3 => ?_).symm
    cases hs : isTurn oj with
    | false => rfl
    | true =>
     have h4 := ordS j oj (by omega) h3 hs (by omega) hmem
     rw [if_neg (by omega)] at h4
     have h5 := hanc i hi j (by simpa using h4) hlw
     have := (hpw j oj (by omega) h3 hs).1 h5
     omega
   ·refine hst_sameX hspec hip hpn fun j oj h1 h2 h3 => ?_
    cases hs : isTurn oj with
    | false => rfl
    | true =>
     have h5 := (hpw j oj (by omega) h3 hs).2 h2
     by_cases hij : i = j
     ·subst hij
      rw [hunf] at h5
      cases h5
     ·have h4 := ordS j oj (by omega) h3 hs hij hmem
      rw [if_pos (by omega)] at h4
      have h6 := hanc j (by omega) i (by simpa using h4) fun q hq => hclo j q hq h5
      rw [hunf] at h6
      cases h6
  have hread : Reads Cy x (lval l n ts (vs.take i) o) a.eval := fun y => by
   cases y with
   | tmp t =>
    simp only [lval]
    cases hix : dstIx l t n with
    | none =>
     have h1 : a.tmps[t]? = a0.tmps[t]? := I.other t (dstIx_none hix)
     have h2 := (ta1.mono I.fw.toEv).reads (.tmp t)
     have h3 : a.eval (.tmp t) = a0.eval (.tmp t) := by simp [Act.eval,h1]
     rw [h3]
     exact h2
    | some k =>
     obtain ⟨hkn,hkd⟩ := dstIx_some hix
     simp only
     split
     ·rename_i hdep
      have hmem : k ∈ depsOf l n o := by simpa using hdep
      have hwk : waits l.toArray i k = true := (List.all_eq_true.1 hwi.1) k hmem
      obtain ⟨v,hv1,hv2⟩ := I.val k t (hlm k hkn (hlw k hwk)) (hlw k hwk) hkd
      have hval1 : a.eval (.tmp t) = v := by simp [Act.eval,hv1]
      rw [hval1]
      by_cases hki : k < i
      ·have e2 : (vs.take i).getD k .any = vs.getD k .any := by simp [List.getD,List.getElem?_take_of_lt hki]
       rw [e2]
       exact hv2
      ·have e2 : (vs.take i).getD k .any = .any := by
        simp only [List.getD]
        rw [List.getElem?_eq_none (by rw [List.length_take];omega)]
        try rfl
       rw [e2]
       trivial
     ·trivial
   | const v => exact (rfl : v = v)
   | global g => exact (rfl : (Value.pointer (some ⟨g,0,none⟩)) = _)
   | func f => exact (rfl : (Value.func (.func f) #[] #[]) = _)
  have hwant : ∀ b,lwanted l (vs.take i) o = some b -> Region.wanted o (yielded l.toArray a.tmps) = b := fun b e => by
   unfold lwanted at e
   unfold Region.wanted
   split at e
   ·rename_i hg
    cases e
    simp [hg]
   ·rename_i j want hg
    rw [hg] at hwi
    simp only [Bool.and_eq_true,decide_eq_true_eq] at hwi
    obtain ⟨hjn,hjw⟩ := hwi.2
    simp only [hg]
    have key : ∀ t u,dstAt l j = some t -> (vs.take i)[j]? = some (.raw u) -> a.tmps[t]? = some u := fun t u h1 h2 => by
     obtain ⟨v,hv1,hv2⟩ := I.val j t (hlm j hjn (hlw j hjw)) (hlw j hjw) h1
     have h4 : vs.getD j .any = .raw u := by
      have hlt := (List.getElem?_eq_some_iff.1 h2).1
      rw [List.length_take] at hlt
      rw [List.getElem?_take_of_lt (by omega)] at h2
      simp [List.getD,h2]
     rw [h4] at hv2
     simp only [Rd] at hv2
     rw [hv1,hv2]
    split at e
    ·rename_i t b' h1 h2
     cases e
     unfold yielded
     rw [getElem?_bind_toArray,h1]
     simp only [Option.bind_some,key _ _ h1 h2]
     cases b' <;> cases want <;> rfl
    ·rename_i t u h1 h2
     cases e
     unfold yielded
     rw [getElem?_bind_toArray,h1]
     simp only [Option.bind_some,key _ _ h1 h2]
     try rfl
    ·cases e
  by_cases hlast : i = m
  ·subst hlast
   obtain ⟨⟨o2,ho2,hturn,hwt,hpp⟩,_⟩ := hpan hi
   rw [hoi] at ho2
   cases ho2
   have hvt : vs.take i = vs := List.take_of_length_le (by omega)
   rw [hvt] at hread hwant
   unfold wpOp
   simp only [ho]
   rw [hwant _ hwt,if_pos rfl]
   rw [← here (.inl hturn)] at hpp
   exact .inl (hpp.out Cy x a sp hread _ _ fun d h' v C' w' q f s' r => hpq d h' a C' w' v q ((f1.trans I.fw).trans f) s' r (I.defers.trans ta.defers))
  have hi' : i < m := by omega
  obtain ⟨o',d,e1,hvd,hst3⟩ := hspec i hi'
  rw [hoi] at e1
  cases e1
  have hvg : vs.getD i .any = d := by simp [List.getD,hvd]
  have next : ∀ (v : Value) (x' : World) (C' : Cx),Fw Cy x C' x' -> Rd C' x' d v -> (∃ p,p ≤ m ∧ (∀ j oj,j < m -> l[j]? = some oj -> isTurn oj = true -> ((listed.setIfInBounds i true).getD j false = true ↔ j < p)) ∧ Sim C' (hst.getD p []) x') -> ∃ Cx',LInvX C w.drew l n m vs hst a0 (listed.setIfInBounds i true) (a.put o.dst v) x' Cx' := fun v x' C' f r hp => by
   have hdo : dstAt l i = o.dst := by simp [dstAt,hoi]
   refine ⟨C',I.fw.trans f,(by rw [← I.defers];exact put_defers _ _ _),(put_size _ _ _).trans I.size,hp,fun t ht => (put_other _ _ (by rw [← hdo];exact ht i hi)).trans (I.other t ht),fun k t hkm hl hkd => ?_,fun k h1 h2 => ?_⟩
   ·have hkn : k < n := by omega
    by_cases hki : k = i
    ·subst hki
     rw [hdo] at hkd
     rw [hvg]
     refine ⟨v,?_,r⟩
     rw [hkd]
     exact put_same _ _ (by rw [I.size];exact Nat.lt_of_lt_of_le (hdlt k t hi (hdo.trans hkd)) hsz)
    ·rw [getD_set_ne false (fun e' => hki e'.symm)] at hl
     obtain ⟨u,hu1,hu2⟩ := I.val k t hkm hl hkd
     refine ⟨u,?_,hu2.mono f.toEv⟩
     rw [put_other _ _ fun e' => hki (hdst k i t hkn hi hkd (hdo.trans e'))]
     exact hu1
   ·rw [getD_set_ne false (fun e' => by omega)]
    exact I.off k h1 h2
  have setd : (listed.setIfInBounds i true).getD i false = true := by simp [hisz]
  have stay : isTurn o = false -> ∃ p,p ≤ m ∧ (∀ j oj,j < m -> l[j]? = some oj -> isTurn oj = true -> ((listed.setIfInBounds i true).getD j false = true ↔ j < p)) ∧ Sim Cy (hst.getD p []) x := fun hns => by
   refine ⟨p,hpn,fun j oj hj hoj hs => ?_,sp⟩
   have hji : j ≠ i := fun e' => by
    subst e'
    rw [hoi] at hoj
    cases hoj
    rw [hs] at hns
    cases hns
   rw [getD_set_ne false (fun e' => hji e'.symm)]
   exact hpw j oj hj hoj hs
  have goes : isTurn o = true -> ∀ C' x',Sim C' (hst.getD (i + 1) []) x' -> ∃ p,p ≤ m ∧ (∀ j oj,j < m -> l[j]? = some oj -> isTurn oj = true -> ((listed.setIfInBounds i true).getD j false = true ↔ j < p)) ∧ Sim C' (hst.getD p []) x' := fun his C' x' sx => by
   have hpi : p ≤ i := by
    have := hpw i o hi' hoi his
    rcases Nat.lt_or_ge i p with h1 | h1
    ·have := this.2 h1
     rw [hunf] at this
     cases this
    ·exact h1
   refine ⟨i + 1,by omega,fun j oj hj hoj hs => ?_,sx⟩
   by_cases hji : j = i
   ·subst hji
    exact ⟨fun _ => Nat.lt_succ_self _,fun _ => setd⟩
   ·rw [getD_set_ne false (fun e' => hji e'.symm),hpw j oj hj hoj hs]
    refine ⟨fun h1 => by omega,fun h1 => ?_⟩
    have h4 := ordS j oj hj hoj hs (fun e' => hji e'.symm) (.inl his)
    rw [if_neg (by omega)] at h4
    have h5 := hanc i hi j (by simpa using h4) hlw
    exact (hpw j oj hj hoj hs).1 h5
  unfold wpOp
  simp only [ho]
  rcases hst3 with ⟨hwt,his,htp⟩ | ⟨hwt,hns,hsop,_⟩ | ⟨hwt,hd0,hh2⟩
  ·rw [hwant _ hwt,if_pos rfl]
   rw [← here (.inl his)] at htp
   exact .inl (htp.out Cy x a sp hread _ _ fun v C' x' f s' r => next v x' C' f r (goes his C' x' s'))
  ·rw [hwant _ hwt,if_pos rfl]
   have hsop' : sop P (lval l n ts (vs.take i) o) o (hst.getD p []) = some d := by
    cases hld : isLoad o with
    | true =>
     cases hfr : free.contains i with
     | false => rw [here (.inr ⟨hld,hfr⟩)];exact hsop
     | true =>
      obtain ⟨o3,d3,q1,q2,q3⟩ := hfree i hi' hfr p hpn
      rw [hoi] at q1
      cases q1
      rw [hvd] at q2
      cases q2
      exact q3
    | false => rw [sop_still hld];exact hsop
   obtain ⟨v,k1,k2⟩ := sop_sound sp hread hsop'
   exact .inl (wp_of_value k1 (next v x Cy (Fw.refl _ _) k2 (stay hns)))
  ·rw [hwant _ hwt,if_neg (by simp)]
   subst hd0
   refine next undef x Cy (Fw.refl _ _) rfl ?_
   cases hso : isTurn o with
   | false => exact stay hso
   | true => exact goes hso Cy x (by rw [hh2,← here (.inl hso)];exact sp)
 ·
  rintro a x ⟨Cy,I⟩
  have hall : ∀ i,i < n -> (doneA n (l.toArray.size - n)).getD i false = true := fun i hi => by
   unfold doneA
   simp [List.getElem?_append_left,hi]
  have hmn' : n = m := by
   rcases Nat.lt_or_ge m n with h1 | h1
   ·have h2 := I.off m (Nat.le_refl _) h1
    rw [hall m h1] at h2
    cases h2
   ·omega
  subst hmn'
  obtain ⟨p,hpn,hpw,sp⟩ := I.at_
  have hend : hst.getD n [] = hst.getD p [] := hst_sameX hspec hpn (Nat.le_refl _) fun j oj h1 h2 h3 => by
   cases hs : isTurn oj with
   | false => rfl
   | true =>
    have := (hpw j oj h2 h3 hs).1 (hall j h2)
    omega
  have tfin : ∀ i,i ≤ n -> RdL Cy x (lputs l vs i ts) ((putV l.toArray (fun k => match dstAt l k with | some t => a.tmps.getD t undef | none => undef) a0 i).tmps.toList) := by
   intro i
   induction i with
   | zero => intro _;exact (ta1.mono I.fw.toEv).rd
   | succ i ih0 =>
    intro hi
    have ih := ih0 (by omega)
    simp only [lputs,putV]
    have e0 : (l.toArray[i]?).bind (·.dst) = dstAt l i := getElem?_bind_toArray l i
    rw [e0]
    cases hdi : dstAt l i with
    | none => exact ih
    | some t =>
     obtain ⟨v,hv1,hv2⟩ := I.val i t (by omega) (hall i (by omega)) hdi
     have : a.tmps.getD t undef = v := by simp [hv1]
     simp only [putD,Act.put,this]
     simpa using RdL.set hv2 ih t
  have ea : a = putV l.toArray (fun k => match dstAt l k with | some t => a.tmps.getD t undef | none => undef) a0 n := by
   refine Fr.done (ops := l.toArray) (n := n) (m := ts.length) (listed := doneA n (l.toArray.size - n)) ⟨I.size,I.defers,fun t ht => I.other t fun i hi e' => ht i hi ((getElem?_bind_toArray l i).trans e'),fun i t hi hl ht => ?_⟩ hd hsz hall
   have ht' := (getElem?_bind_toArray l i).symm.trans ht
   obtain ⟨v,hv1,hv2⟩ := I.val i t hi (hall i hi) ht'
   simp [ht',hv1]
  have tan : TA Cy x (lputs l vs n ts) a := ⟨by rw [ea];exact tfin n (Nat.le_refl _),I.defers.trans ta.defers⟩
  have hlist := hk rfl _ _ _ (f1.trans I.fw) (by rw [hend];exact sp) tan
  simpa using hlist
 ·unfold leftH
  have : ((List.range n).filter fun i => !(Array.replicate l.toArray.size false).getD i true) = List.range n := List.filter_eq_self.2 fun i hi => by
   have := List.mem_range.1 hi
   have : i < l.length := by simp at hnsz;omega
   simp [this]
  rw [this,List.length_range]end
section
variable {T : TP}
theorem xrun_any {l : List Oper} {n : Nat} {ts : List D} {free : List Nat} {R : D -> H -> Prop} {K : List D -> H -> Prop} (h4 : headB .any l.toArray n = true ∧ dstsB l.toArray n ts.length = true ∧ waitsB l n = true) {h0 : H} :
  ∀ {r : Nat} {vs : List D} {hst : List H} {h : H},xrun T l n ts free R K r vs hst h -> vs.length + r = n -> hst.length = vs.length + 1 -> hst.getD 0 [] = h0 -> hst.getD vs.length [] = h ->
  (∀ i,i < vs.length -> ∃ o d,l[i]? = some o ∧ vs[i]? = some d ∧ TStep (T ()) l n ts (vs.take i) (hst.getD i []) o d (hst.getD (i + 1) [])) ->
  ∀ (id : Nat) {C : Cx} {w : World} {a0 : Act} {Q : Exit -> Act -> World -> Prop},Sim C h0 w -> TA C w ts a0 ->
  (∀ d h' a' C' w' v,R d h' -> Fw C w C' w' -> Sim C' h' w' -> Rd C' w' d v -> a'.defers = [] -> Q (.panic [{ v,recovered := false }]) a' w') ->
  (∀ ts' h' a' C' w',K ts' h' -> Fw C w C' w' -> Sim C' h' w' -> TA C' w' ts' a' -> Q .normal a' w') -> wpAny (T ()) .any l.toArray Q l.toArray.size (Array.replicate l.toArray.size false) a0 w.drew
 | 0,vs,hst,h,e,hn,hl,hz,hh,hsp => fun id {C w a0 Q} s ta hp hk => by
  have hvn : vs.length = n := by omega
  obtain ⟨h5,h6,h7⟩ := e.out
  refine aturnX_any (Rp := R) (Nat.le_refl n) ⟨hvn,by omega,hz,fun i hi => hsp i (by omega)⟩ ⟨h4.1,h4.2.1,h4.2.2,by rw [Nat.min_eq_right (Nat.le_succ n)];exact h5⟩ h6 (fun h => absurd h (Nat.lt_irrefl _)) s ta hp fun _ a' C' w' f' s' t' => ?_
  rw [← hvn,hh] at s'
  exact ylist_sound h7 s' t' (fun d h' a' C' w' v q f2 s2 r hd => hp d h' a' C' w' v q (f'.trans f2) s2 r hd) fun ts' h' a' C' w' k f2 s2 t2 => hk ts' h' a' C' w' k (f'.trans f2) s2 t2
 | r + 1,vs,hst,h,e,hn,hl,hz,hh,hsp => fun id {C w a0 Q} s ta hp hk => by
  simp only [xrun] at e
  split at e
  ·rename_i o ho
   rcases xstep_ok e with ⟨d,h',k1,k2⟩ | ⟨R0,⟨q1,q2,q3⟩,q4⟩
   ·have keep : ∀ q,q < vs.length + 1 -> (hst ++ [h']).getD q [] = hst.getD q [] := fun q hq => by simp [List.getD,List.getElem?_append_left (show q < hst.length by omega)]
    have last : (hst ++ [h']).getD (vs.length + 1) [] = h' := by simp [List.getD,List.getElem?_append_right (show hst.length ≤ vs.length + 1 by omega),hl]
    refine xrun_any h4 (h0 := h0) k2 (by simp;omega) (by simp [hl]) (by rw [keep 0 (by omega)];exact hz) (by simpa using last) (fun i hi => ?_) id s ta hp hk
    by_cases hlt : i < vs.length
    ·obtain ⟨o',d',j1,j2,j3⟩ := hsp i hlt
     refine ⟨o',d',j1,by rw [List.getElem?_append_left hlt];exact j2,?_⟩
     rw [List.take_append_of_le_length (by omega),keep i (by omega),keep (i + 1) (by omega)]
     exact j3
    ·have : i = vs.length := by simp at hi;omega
     subst this
     refine ⟨o,d,ho,by rw [List.getElem?_append_right (Nat.le_refl _)];simp,?_⟩
     rw [List.take_append_of_le_length (Nat.le_refl _),List.take_of_length_le (Nat.le_refl _),keep _ (by omega),last,hh]
     exact k1
   ·obtain ⟨⟨h5,h6,h7⟩,h8,h9⟩ := q4.out
    refine aturnX_any (Rp := R0) (Nat.le_of_lt h5) ⟨rfl,hl,hz,hsp⟩ ⟨h4.1,h4.2.1,h4.2.2,h6⟩ h8 (fun _ => ⟨⟨o,ho,q1,q2,by rw [hh];exact q3⟩,fun k hk1 hk2 => ?_⟩) s ta (fun d h' a' C' w' v q f' s' r hd => hp d h' a' C' w' v (h9 d h' q) f' s' r hd) fun hmn => absurd hmn (by omega)
    have := List.all_eq_true.1 h7 k (List.mem_range.2 hk2)
    simp only [Bool.or_eq_true,decide_eq_true_eq] at this
    exact this.resolve_left (by omega)
  ·exact e.elim
end
section
variable {P : Program}
def ap (ds : List Deferred) (a : Act) : Act := { a with defers := a.defers ++ ds }
theorem ap_nil (a : Act) : ap [] a = a := by simp [ap]
theorem ap_put (ds : List Deferred) (a : Act) (t : Option Tmp) (v : Value) : (ap ds a).put t v = ap ds (a.put t v) := by cases t <;> rfl
theorem lets_ap {ds : List Deferred} {Q : Exit -> Act -> World -> Prop} (h : LetsOut fun e a w => Q e (ap ds a) w) : LetsOut Q := by
 obtain ⟨a,w,h⟩ := h
 exact ⟨_,_,h⟩
theorem upon_ap {ds : List Deferred} {o : Oper} {a : Act} {next : Act -> World -> Prop} {Q : Exit -> Act -> World -> Prop} {r : Result Next} (h : o.upon P a (fun a w => next (ap ds a) w) (fun e a w => Q e (ap ds a) w) r) : o.upon P (ap ds a) next Q r := by
 unfold Oper.upon at h
 split at h
 ·show next ((ap ds a).put o.dst _) _
  rw [ap_put]
  exact h
 ·show next ((ap ds a).put o.dst _) _
  rw [ap_put]
  exact h
 ·rename_i d w'
  show next ((ap ds { a with defers := d :: a.defers }).put o.dst _) _
  rw [ap_put]
  exact h
 ·refine Calls.mono h ?_
  intro e w'' he
  cases e with
  | returned v =>
   show next ((ap ds a).put o.dst _) _
   rw [ap_put]
   exact he
  | panicked c => exact he
  | outgrown => exact lets_ap he
 ·rename_i row args w'
  show Rows P row args w' fun v w'' => next ((ap ds a).put o.dst v) w''
  simp only [ap_put]
  exact h
 ·exact h
 ·exact h.elim
theorem opwp_ap {ds : List Deferred} {o : Oper} {a : Act} {w : World} {next : Act -> World -> Prop} {Q : Exit -> Act -> World -> Prop} (h : o.wp P a w (fun a w => next (ap ds a) w) (fun e a w => Q e (ap ds a) w)) : o.wp P (ap ds a) w next Q := upon_ap (r := (execOp a.eval o).run P w) h
theorem wpList_ap {ds : List Deferred} {ops : Array Oper} {Q : Exit -> Act -> World -> Prop} : ∀ {l : List Oper} {a : Act} {w : World},wpList P ops (fun e a w => Q e (ap ds a) w) l a w -> wpList P ops Q l (ap ds a) w
 | [],a,w,h => h
 | o :: rest,a,w,h => by
  unfold wpList at h ⊢
  by_cases hw : Region.wanted o (yielded ops a.tmps) = true
  ·rw [if_pos hw] at h
   rw [if_pos (show Region.wanted o (yielded ops (ap ds a).tmps) = true from hw)]
   exact h.imp (fun h => opwp_ap (Oper.wp_mono (fun a w h => wpList_ap h) h)) fun h => ⟨h.1,lets_ap h.2⟩
  ·rw [if_neg hw] at h
   rw [if_neg (show ¬ Region.wanted o (yielded ops (ap ds a).tmps) = true from hw),ap_put]
   exact wpList_ap h
theorem wpOp_ap {ds : List Deferred} {ops : Array Oper} {Q : Exit -> Act -> World -> Prop} {i : Nat} {K K' : Act -> World -> Prop} {a : Act} {w : World} (hk : ∀ a w,K' a w -> K (ap ds a) w) (h : wpOp P ops (fun e a w => Q e (ap ds a) w) i K' a w) : wpOp P ops Q i K (ap ds a) w := by
 unfold wpOp at h ⊢
 split at h
 ·exact hk _ _ h
 ·rename_i o ho
  by_cases hw : Region.wanted o (yielded ops a.tmps) = true
  ·rw [if_pos hw] at h
   rw [if_pos (show Region.wanted o (yielded ops (ap ds a).tmps) = true from hw)]
   exact h.imp (fun h => opwp_ap (Oper.wp_mono hk h)) fun h => ⟨h.1,lets_ap h.2⟩
  ·rw [if_neg hw] at h
   rw [if_neg (show ¬ Region.wanted o (yielded ops (ap ds a).tmps) = true from hw),ap_put]
   exact hk _ _ h
theorem wpAny_ap {md : Region.Mode} {ds : List Deferred} {ops : Array Oper} {Q : Exit -> Act -> World -> Prop} : ∀ {fuel : Nat} {listed : Array Bool} {a : Act} {w : World},wpAny P md ops (fun e a w => Q e (ap ds a) w) fuel listed a w -> wpAny P md ops Q fuel listed (ap ds a) w
 | 0,_,_,_,h => h
 | fuel + 1,listed,a,w,h => ⟨h.1,fun i hi => wpOp_ap (fun _ _ h => wpAny_ap h) (h.2 i hi)⟩
end
structure AssertK (T : TP) (t : TypeId) (K : Prop) : Prop where
 out : (∃ fs,(T ()).underlying t = some (.struct fs)) ∧ K
section
variable {T : TP}
def dop (T : TP) (own : Bool) (ρ : Operand -> D) (o : Oper) (h : H) (R K : D -> H -> Prop) : Prop :=
 match o.op with
 | .typeAssert x _ t false => match ρ x with
  | .ifc t' d => bcase (t' == t) (fun _ => AssertK T t (K d h)) (fun _ => False)
  | .raw (.iface t' v) => bcase (t' == t) (fun _ => AssertK T t (K (.raw v) h)) (fun _ => False)
  | _ => False
 | _ => yop T own ρ o h R K
theorem dop_sound {C : Cx} {h : H} {w : World} (s : Sim C h w) {ρ : Operand -> D} {a : Act} (hr : Reads C w ρ a.eval) {o : Oper} {own : Bool} {R K : D -> H -> Prop} (e : dop T own ρ o h R K) {Rw : Act -> World -> Prop} {Q : Exit -> Act -> World -> Prop}
  (hk : ∀ d h' v C' w',K d h' -> Fw C w C' w' -> Sim C' h' w' -> Rd C' w' d v -> Rw (a.put o.dst v) w')
  (hp : ∀ d h' v C' w',R d h' -> Fw C w C' w' -> Sim C' h' w' -> Rd C' w' d v -> Q (.panic [{ v,recovered := false }]) a w') : o.wp (T ()) a w Rw Q := by
 unfold dop at e
 split at e
 ·rename_i x xt t ho
  have hx := hr x
  split at e
  ·rename_i t' d hd
   rw [hd] at hx
   obtain ⟨u,hu,hru⟩ := hx
   have e := bcase_eq e
   split at e
   ·rename_i htt
    have htt : t' = t := by simpa using htt
    subst htt
    obtain ⟨⟨fs,hfs⟩,k⟩ := e.out
    refine wp_of_value (w' := w) (v := u) ?_ (hk _ _ _ C w k (Fw.refl _ _) s hru)
    simp only [execOp,ho,hu,Sem.run_bind,Instr.typeAssert,run_underlying hfs]
    simp
   ·exact e.elim
  ·rename_i t' v hd
   rw [hd] at hx
   have hu : a.eval x = .iface t' v := hx
   have e := bcase_eq e
   split at e
   ·rename_i htt
    have htt : t' = t := by simpa using htt
    subst htt
    obtain ⟨⟨fs,hfs⟩,k⟩ := e.out
    refine wp_of_value (w' := w) (v := v) ?_ (hk _ _ _ C w k (Fw.refl _ _) s rfl)
    simp only [execOp,ho,hu,Sem.run_bind,Instr.typeAssert,run_underlying hfs]
    simp
   ·exact e.elim
  ·exact e.elim
 ·exact yop_sound s hr e hk hp
def dlist (T : TP) (ops : Array Oper) (R : List D -> D -> H -> Prop) : List Oper -> List D -> H -> (List D -> H -> Prop) -> Prop
 | [],ts,h,K => K ts h
 | o :: rest,ts,h,K => match o.guard with
  | none => dop T (ownB ops o) (dv ts) o h (R ts) fun d h' => dlist T ops R rest (putD ts o.dst d) h' K
  | some _ => False
theorem dlist_sound {ops : Array Oper} {R : List D -> D -> H -> Prop} {Q : Exit -> Act -> World -> Prop} {l2 : List Oper} : ∀ {l : List Oper} {ts : List D} {h : H} {K : List D -> H -> Prop} {C : Cx} {w : World} {a : Act},dlist T ops R l ts h K -> Sim C h w -> TA C w ts a ->
  (∀ ts' d h' a' C' w' v,R ts' d h' -> Fw C w C' w' -> Sim C' h' w' -> TA C' w' ts' a' -> Rd C' w' d v -> Q (.panic [{ v,recovered := false }]) a' w') ->
  (∀ ts' h' a' C' w',K ts' h' -> Fw C w C' w' -> Sim C' h' w' -> TA C' w' ts' a' -> wpList (T ()) ops Q l2 a' w') -> wpList (T ()) ops Q (l ++ l2) a w
 | [],ts,h,K,C,w,a,e,s,ta,hp,hk => hk ts h a C w e (Fw.refl _ _) s ta
 | o :: rest,ts,h,K,C,w,a,e,s,ta,hp,hk => by
  simp only [dlist] at e
  split at e
  ·rename_i hg
   rw [List.cons_append]
   unfold wpList
   have hw : wantedD ops ts o = some true := by simp only [wantedD,hg]
   rw [wantedD_sound ta hw]
   refine .inl (dop_sound s ta.reads e (fun d h' v C' w' e2 f s' r => ?_) fun d h' v C' w' q f s' r => hp ts d h' a C' w' v q f s' (ta.mono f.toEv) r)
   exact dlist_sound e2 s' ((ta.mono f.toEv).put r _) (fun ts' d h' a' C' w' v q f' s' t' r => hp ts' d h' a' C' w' v q (f.trans f') s' t' r) fun ts2 h2 a' C2 w2 k f2 s2 t2 => hk ts2 h2 a' C2 w2 k (f.trans f2) s2 t2
  ·exact e.elim
theorem dlistS_sound {ops : Array Oper} {QS : Exit -> Act -> List Frame -> World -> Prop} {cs : List Frame} : ∀ {l : List Oper} (k0 : Nat) {ts : List D} {h : H} {K : List D -> H -> Prop} {C : Cx} {w : World} {a : Act},(∀ j,l[j]? = ops[k0 + j]?) -> dlist T ops (fun _ _ _ => False) l ts h K -> Sim C h w -> TA C w ts a ->
  (∀ ts' h' a' C' w',K ts' h' -> Fw C w C' w' -> Sim C' h' w' -> TA C' w' ts' a' -> QS .normal a' cs w') -> wpOpsS (T ()) ops QS (List.range' k0 l.length) a cs w
 | [],k0,ts,h,K,C,w,a,hl,e,s,ta,hk => hk ts h a C w e (Fw.refl _ _) s ta
 | o :: rest,k0,ts,h,K,C,w,a,hl,e,s,ta,hk => by
  simp only [dlist] at e
  split at e
  ·rename_i hg
   have h0 : ops[k0]? = some o := by simpa using (hl 0).symm
   simp only [List.length_cons,List.range'_succ,wpOpsS,h0]
   have hw : wantedD ops ts o = some true := by simp only [wantedD,hg]
   rw [wantedD_sound ta hw,if_pos rfl]
   have main : o.wp (T ()) a w (fun a' w' => wpOpsS (T ()) ops QS (List.range' (k0 + 1) rest.length) a' cs w') (fun e a' w' => QS e a' cs w') := by
    refine dop_sound s ta.reads e (fun d h' v C' w' e2 f s' r => ?_) fun d h' v C' w' q f s' r => q.elim
    exact dlistS_sound (k0 + 1) (fun j => by have := hl (j + 1);simpa [Nat.add_assoc,Nat.add_comm 1 j] using this) e2 s' ((ta.mono f.toEv).put r _) fun ts2 h2 a' C2 w2 k f2 s2 t2 => hk ts2 h2 a' C2 w2 k (f.trans f2) s2 t2
   unfold Oper.wp at main
   split
   ·rename_i w' hr
    rw [hr] at main
    exact main.elim
   ·exact main
  ·exact e.elim
structure DDrawK (T : TP) (l : List Oper) (ts : List D) (h : H) (K : List D -> H -> Prop) : Prop where
 out : ∃ n free,(headB .any l.toArray n = true ∧ dstsB l.toArray n ts.length = true ∧ waitsB l n = true) ∧ xrun T l n ts free (fun _ _ => False) K n [] [h] h
theorem DDrawK.turn {l : List Oper} {ts : List D} {h : H} {K : List D -> H -> Prop} (j : Nat) (free : List Nat) (hs : statX l (l.length - j) = true) (hd : dstsB l.toArray (l.length - j) ts.length = true)
  (k : xrun T l (l.length - j) ts free (fun _ _ => False) K (l.length - j) [] [h] h) : DDrawK T l ts h K := by
 simp only [statX,Bool.and_eq_true] at hs
 exact ⟨l.length - j,free,⟨hs.1,hd,hs.2⟩,k⟩
def dx (T : TP) (R : List D -> D -> H -> Prop) : Code -> List D -> H -> (AExit -> List D -> H -> Prop) -> Prop
 | .skip,ts,h,Q => Q .normal ts h
 | .region _ ops draw,ts,h,Q => match draw with
  | true => DDrawK T ops.toList ts h (fun ts' h' => Q .normal ts' h')
  | false => dlist T ops R ops.toList ts h (fun ts' h' => Q .normal ts' h')
 | .seq a b,ts,h,Q => dx T R a ts h fun ex ts' h' => match ex with
  | .normal => dx T R b ts' h' Q
  | .exit j => Q (.exit j) ts' h'
  | .ret => Q .ret ts' h'
 | .cond c x y,ts,h,Q => match dv ts c with
  | .raw (.bool t) => bcase t (fun _ => dx T R x ts h Q) (fun _ => dx T R y ts h Q)
  | _ => False
 | .ret,ts,h,Q => Q .ret ts h
 | _,_,_,_ => False
theorem dx_sound (hm : (T ()).follows .mixedOrders = true) {ds : List Deferred} {R : List D -> D -> H -> Prop} : ∀ (c : Code) {ts : List D} {h : H} {K : AExit -> List D -> H -> Prop},dx T R c ts h K -> ∀ {C : Cx} {w : World} {a : Act} {Q : Exit -> Act -> World -> Prop},Sim C h w -> TA C w ts a ->
  (∀ ts' d h' a' C' w' v,R ts' d h' -> Fw C w C' w' -> Sim C' h' w' -> TA C' w' ts' a' -> Rd C' w' d v -> Q (.panic [{ v,recovered := false }]) (ap ds a') w') -> (∀ ex ts' h' a' C' w',K ex ts' h' -> Fw C w C' w' -> Sim C' h' w' -> TA C' w' ts' a' -> Q ex.ex (ap ds a') w') -> c.wp (T ()) Q (ap ds a) w := by
 intro c
 induction c with
 | skip => intro ts h K e C w a Q s ta hp hk;exact wp_skip (hk _ _ _ a C w e (Fw.refl _ _) s ta)
 | region id ops draw =>
  intro ts h K e C w a Q s ta hp hk
  simp only [dx] at e
  cases draw with
  | false =>
   have := dlist_sound (Q := fun e a w => Q e (ap ds a) w) (l2 := []) e s ta hp fun ts' h' a' C' w' k f' s' t' => hk _ _ _ a' C' w' k f' s' t'
   rw [List.append_nil] at this
   exact wp_region_list (wpList_ap this)
  | true =>
   obtain ⟨n,free,h4,e⟩ := e.out
   have := xrun_any (Q := fun e a w => Q e (ap ds a) w) h4 (h0 := h) e (by simp) (by simp) (by simp) (by simp) (fun i hi => absurd hi (Nat.not_lt_zero _)) 0 s ta (fun d h' a' C' w' v q _ _ _ _ => q.elim) fun ts' h' a' C' w' k f' s' t' => hk _ _ _ a' C' w' k f' s' t'
   have := wp_region_any (id := id) hm (wpAny_ap this)
   simpa using this
 | seq x y ihx ihy =>
  intro ts h K e C w a Q s ta hp hk
  simp only [dx] at e
  refine wp_seq (ihx e s ta (fun ts' d h' a' C' w' v q f' s' t' r => hp ts' d h' a' C' w' v q f' s' t' r) fun ex ts1 h1 a1 C1 w1 k f1 s1 t1 => ?_)
  cases ex with
  | normal => exact ihy k s1 t1 (fun ts' d h' a' C' w' v q f' s' t' r => hp ts' d h' a' C' w' v q (f1.trans f') s' t' r) fun ex ts' h' a' C' w' k' f' s' t' => hk ex ts' h' a' C' w' k' (f1.trans f') s' t'
  | exit j => exact hk _ _ _ a1 C1 w1 k f1 s1 t1
  | ret => exact hk _ _ _ a1 C1 w1 k f1 s1 t1
 | cond c x y ihx ihy =>
  intro ts h K e C w a Q s ta hp hk
  simp only [dx] at e
  split at e
  ·rename_i t hc
   have hcv := ta.reads c
   rw [hc] at hcv
   simp only [Rd] at hcv
   have e := bcase_eq e
   refine wp_cond_split (a := ap ds a) hcv (fun ht => ?_) fun ht => ?_
   ·subst ht
    rw [if_pos rfl] at e
    exact ihx e s ta hp hk
   ·subst ht
    rw [if_neg (by simp)] at e
    exact ihy e s ta hp hk
  ·exact e.elim
 | ret => intro ts h K e C w a Q s ta hp hk;exact wp_ret (hk _ _ _ a C w e (Fw.refl _ _) s ta)
 | _ => intros;rename_i e _ _ _ _ _ _ _ _;simp [dx] at e
end
def modeOf : Option Value -> FrameMode
 | none => .returning
 | some v => .panicking [{ v,recovered := false }]
def modeTo : Option Value -> FrameMode
 | none => .returning
 | some v => .panicking [{ v,recovered := true }]
def PanIs (C : Cx) (w : World) : Option D -> Option Value -> Prop
 | none,none => True
 | some d,some v => Rd C w d v
 | _,_ => False
def DefC (P : Program) (g : FuncId) (ds : List D) (h : H) (pan : Option D) (K : H -> Prop) : Prop :=
 Callable P g ∧ ∀ (C : Cx) (w : World) (args : List Value) (v : Option Value),Sim C h w -> RdL C w ds args -> PanIs C w pan v ->
  CallsD P g args.toArray (modeOf v) w fun e u' w' => ∃ x C' h',e = .returned x ∧ u' = modeTo v ∧ K h' ∧ Fw C w C' w' ∧ Sim C' h' w'
structure ClosK (T : TP) (g : FuncId) (ds : List D) (h : H) (pan : Option D) (K : H -> Prop) : Prop where
 out : ∃ Q,DefC (T ()) g ds h pan Q ∧ ∀ h',Q h' -> K h'
def isRec (o : Oper) : Bool := match o.op,o.guard with
 | .call c,none => (match c.callee with | .builtin .recover => c.args.isEmpty | _ => false)
 | _,_ => false
theorem rec_run {P : Program} {o : Oper} (h : isRec o = true) (ρ : Operand -> Value) (w : World) : (execOp ρ o).run P w = .ok .recover w := by
 unfold isRec at h
 split at h
 ·rename_i c ho hg
  split at h
  ·rename_i hc
   simp [execOp,ho,resolve,hc,invoke,builtin]
  ·cases h
 ·cases h
section
variable {T : TP}
def rfun (T : TP) (g : FuncId) (ds : List D) (h : H) (pan : Option D) (K : H -> Prop) : Prop :=
 match (T ()).funcs[g]? with
 | some fn => match fn.body with
  | some (.seq (.region _ ops false) rest) => match ops.toList with
   | o :: os => if (isRec o && !(fn.name == "runtime.NumGoroutine") && fn.results.isEmpty) = true then
     dlist T ops (fun _ _ _ => False) os (putD (ds ++ List.replicate (fn.ntmps - ds.length) (.raw undef)) o.dst (pan.getD (.raw .nilIface))) h fun ts' h' =>
      dx T (fun _ _ _ => False) rest ts' h' fun ex _ h'' => match ex with
       | .exit _ => False
       | _ => K h''
    else False
   | [] => False
  | _ => False
 | none => False
theorem rfun_ok (hm : (T ()).follows .mixedOrders = true) {g : FuncId} {ds : List D} {h : H} {pan : Option D} {K : H -> Prop} (e : rfun T g ds h pan K) : DefC (T ()) g ds h pan K := by
 unfold rfun at e
 split at e
 ·rename_i fn hf
  split at e
  ·rename_i id ops rest hb
   split at e
   ·rename_i o os hops
    split at e
    ·rename_i hcond
     simp only [Bool.and_eq_true,Bool.not_eq_true'] at hcond
     obtain ⟨⟨hrec,hname⟩,hres⟩ := hcond
     refine ⟨⟨fn,_,hf,hname,hb⟩,fun C w args v s r hv => ?_⟩
     refine callsD_of_wpS hf hb fun c₀ cs hu => wpS_seq (wpS_region ?_)
     have hta : TA C w (ds ++ List.replicate (fn.ntmps - ds.length) (.raw undef)) { tmps := args.toArray ++ Array.replicate (fn.ntmps - args.toArray.size) undef,defers := [] } := by
      refine ⟨?_,rfl⟩
      have hl := r.len
      simp only [Array.toList_append,Array.toList_replicate,List.size_toArray,← hl]
      refine r.app ?_
      have := RdL.raws C w (List.replicate (fn.ntmps - ds.length) undef)
      simpa using this
     generalize ({ tmps := args.toArray ++ Array.replicate (fn.ntmps - args.toArray.size) undef,defers := [] } : Act) = a0 at hta ⊢
     have hsz : ops.size = os.length + 1 := by rw [← Array.length_toList,hops];rfl
     have h0 : ops[0]? = some o := by rw [← Array.getElem?_toList,hops];rfl
     have hnext : ∀ j,os[j]? = ops[0 + 1 + j]? := fun j => by rw [← Array.getElem?_toList,hops,show 0 + 1 + j = j + 1 by omega,List.getElem?_cons_succ]
     have hguard : o.guard = none := by
      unfold isRec at hrec
      split at hrec
      ·assumption
      ·cases hrec
     rw [hsz,List.range_eq_range',List.range'_succ]
     simp only [wpOpsS,h0]
     have hw : wantedD ops (ds ++ List.replicate (fn.ntmps - ds.length) (.raw undef)) o = some true := by simp only [wantedD,hguard]
     rw [wantedD_sound hta hw,if_pos rfl,rec_run hrec]
     have fin : ∀ (x : Value) (u' : FrameMode),Rd C w (pan.getD (.raw .nilIface)) x -> u' = modeTo v -> wpOpsS (T ()) ops (Exit.thenS (rest.wpS (T ()) (bodyPostS (T ()) fn c₀ cs fun e u' w' => ∃ x C' h',e = .returned x ∧ u' = modeTo v ∧ K h' ∧ Fw C w C' w' ∧ Sim C' h' w')) (bodyPostS (T ()) fn c₀ cs fun e u' w' => ∃ x C' h',e = .returned x ∧ u' = modeTo v ∧ K h' ∧ Fw C w C' w' ∧ Sim C' h' w')) (List.range' (0 + 1) os.length) (a0.put o.dst x) ({ c₀ with mode := u' } :: cs) w := fun x u' hx hu' => by
      refine dlistS_sound (0 + 1) hnext e s (hta.put hx _) fun ts1 h1 a1 C1 w1 k1 f1 s1 t1 => ?_
      refine wpS_of_wp ?_
      have := dx_sound (ds := []) (Q := fun e a' w' => bodyPostS (T ()) fn c₀ cs (fun e u' w' => ∃ x C' h',e = .returned x ∧ u' = modeTo v ∧ K h' ∧ Fw C w C' w' ∧ Sim C' h' w') e a' ({ c₀ with mode := u' } :: cs) w') hm rest k1 s1 t1 (fun _ _ _ _ _ _ _ q _ _ _ _ => q.elim) fun ex ts2 h2 a2 C2 w2 k2 f2 s2 t2 => ?_
      ·rw [ap_nil] at this
       exact this
      ·have main : K h2 -> bodyPostS (T ()) fn c₀ cs (fun e u' w' => ∃ x C' h',e = .returned x ∧ u' = modeTo v ∧ K h' ∧ Fw C w C' w' ∧ Sim C' h' w') .ret (ap [] a2) ({ c₀ with mode := u' } :: cs) w2 := fun k2 => by
        rw [ap_nil]
        have hrs : resD (T ()) h2 ts2 fn.results.toList = some [] := by
         have : fn.results = #[] := by simpa using hres
         rw [this]
         try rfl
        obtain ⟨vs,j1,j2⟩ := resD_sound s2 t2 hrs
        exact ⟨t2.defers,u',rfl,_,run_results j1,_,C2,h2,rfl,hu',k2,f1.trans f2,s2⟩
       cases ex with
       | normal => exact main k2
       | ret => exact main k2
       | exit j => exact k2.elim
     cases v with
     | none =>
      cases pan with
      | some d => exact hv.elim
      | none =>
       have hc : c₀.mode = .returning := hu
       have hr : recoverD (c₀ :: cs) = none := by simp [recoverD,hc]
       simp only [hr]
       have := fin .nilIface .returning rfl rfl
       rw [← hc] at this
       exact this
     | some v =>
      cases pan with
      | none => exact hv.elim
      | some d =>
       have hc : c₀.mode = .panicking [{ v,recovered := false }] := hu
       have hr : recoverD (c₀ :: cs) = some (v,{ c₀ with mode := .panicking [{ v,recovered := true }] } :: cs) := by simp [recoverD,hc]
       simp only [hr]
       exact fin v _ hv rfl
    ·exact e.elim
   ·exact e.elim
  ·exact e.elim
 ·exact e.elim
def defun (T : TP) (k : FuncId) (ds : List D) (h : H) (Q : D -> H -> Prop) : Prop :=
 match (T ()).funcs[k]? with
 | some fn => match fn.body with
  | some (.seq (.region _ o0 false) (.seq (.region _ o1 false) rest)) => if (fn.name == "runtime.NumGoroutine") = false then
    match o1.toList with
    | [mk,df] => match df.op,df.guard,df.dst with
     | .defer c,none,none => match c.callee with
      | .value f => dlist T o0 (fun _ _ _ => False) o0.toList (ds ++ List.replicate (fn.ntmps - ds.length) (.raw undef)) h fun ts1 h1 =>
        dlist T o1 (fun _ _ _ => False) [mk] ts1 h1 fun ts2 h2 => match fnD (dv ts2 f) with
         | some (g,first,cap) =>
          dx T (fun ts' d h' => ClosK T g (first ++ c.args.toList.map (dv ts2) ++ cap) h' (some d) fun h'' => match resD (T ()) h'' ts' fn.results.toList with
           | some l => EndK Q (oneD l) h''
           | none => False) rest ts2 h2 fun ex ts' h' => match ex with
            | .exit _ => False
            | _ => ClosK T g (first ++ c.args.toList.map (dv ts2) ++ cap) h' none fun h'' => match resD (T ()) h'' ts' fn.results.toList with
             | some l => EndK Q (oneD l) h''
             | none => False
         | none => False
      | _ => False
     | _,_,_ => False
    | _ => False
   else False
  | _ => False
 | none => False
theorem leaves_mono {P : Program} {fn : Func} {tmps : Array Value} {R R' : Ending -> World -> Prop} (hr : ∀ e w,R e w -> R' e w) : ∀ {ds : List Deferred} {u : FrameMode} {w : World},Leaves P fn tmps R ds u w -> Leaves P fn tmps R' ds u w
 | [],.returning,w,⟨v,h1,h2⟩ => ⟨v,h1,hr _ _ h2⟩
 | [],.panicking c,w,h => hr _ _ h
 | [],.run,w,h => h
 | d :: ds,u,w,⟨h0,fv,cap,f,args,h1,h2,h3⟩ => ⟨h0,fv,cap,f,args,h1,h2,h3.mono fun e u' w' he => by
   cases e with
   | returned v => exact leaves_mono hr he
   | panicked c => exact leaves_mono hr he
   | outgrown => exact hr _ _ he⟩
theorem leaves_one {P : Program} {fn : Func} {g : FuncId} {x y args : Array Value} {ds : List D} {h : H} {pan : Option D} {K : H -> Prop} (c : DefC P g ds h pan K) {C : Cx} {w : World} {v : Option Value} (s : Sim C h w) (hr : RdL C w ds (x.toList ++ args.toList ++ y.toList)) (hv : PanIs C w pan v)
  {ts : List D} {a : Act} (ta : TA C w ts a) {Q : D -> H -> Prop} (hK : ∀ h'',K h'' -> match resD P h'' ts fn.results.toList with | some l => EndK Q (oneD l) h'' | none => False) :
  Leaves P fn a.tmps (fun e w' => ∃ v C' d h',e = .returned v ∧ Q d h' ∧ Fw C w C' w' ∧ Sim C' h' w' ∧ Rd C' w' d v) [{ target := .fn (.func g) y,args := x ++ args }] (modeOf v) w := by
 refine ⟨by cases v <;> simp [modeOf],.func g,y,g,(x.toList ++ args.toList ++ y.toList).toArray,rfl,?_,?_⟩
 ·simp only [invoke]
  rw [callable_run c.1]
  congr 2
  apply Array.ext'
  simp
 ·refine CallsD.mono (c.2 C w _ v s hr hv) ?_
  rintro e u' w' ⟨z,C',h',rfl,rfl,k,f,s'⟩
  have hs : settle (modeTo v) = .returning := by cases v <;> rfl
  show Leaves P fn a.tmps _ [] (settle (modeTo v)) w'
  rw [hs]
  have k := hK h' k
  split at k
  ·rename_i l hl
   obtain ⟨vs,j1,j2⟩ := resD_sound s' (ta.mono f.toEv) hl
   exact ⟨_,run_results j1,_,C',_,h',rfl,k.out,f,s',oneD_rd j2⟩
  ·exact k.elim
theorem defun_ok (hm : (T ()).follows .mixedOrders = true) {k : FuncId} {ds : List D} {h : H} {K : D -> H -> Prop} (e : defun T k ds h K) : CW (T ()) k ds h K := by
 unfold defun at e
 split at e
 ·rename_i fn hf
  split at e
  ·rename_i i0 o0 i1 o1 rest hb
   split at e
   ·rename_i hname
    split at e
    ·rename_i mk df ho1
     split at e
     ·rename_i c hdo hdg hdd
      split at e
      ·rename_i f hcf
       refine ⟨⟨fn,_,hf,hname,hb⟩,fun C w args s r => calls_of_wp_defers hf hb ?_⟩
       have hta : TA C w (ds ++ List.replicate (fn.ntmps - ds.length) (.raw undef)) { tmps := args.toArray ++ Array.replicate (fn.ntmps - args.toArray.size) undef,defers := [] } := by
        refine ⟨?_,rfl⟩
        have hl := r.len
        simp only [Array.toList_append,Array.toList_replicate,List.size_toArray,← hl]
        refine r.app ?_
        have := RdL.raws C w (List.replicate (fn.ntmps - ds.length) undef)
        simpa using this
       generalize ({ tmps := args.toArray ++ Array.replicate (fn.ntmps - args.toArray.size) undef,defers := [] } : Act) = a0 at hta ⊢
       refine wp_seq (wp_region_list ?_)
       rw [← List.append_nil o0.toList]
       refine dlist_sound e s hta (fun _ _ _ _ _ _ _ q _ _ _ _ => q.elim) fun ts1 h1 a1 C1 w1 k1 f1 s1 t1 => ?_
       refine wp_seq (wp_region_list ?_)
       rw [ho1,show [mk,df] = [mk] ++ [df] from rfl]
       refine dlist_sound k1 s1 t1 (fun _ _ _ _ _ _ _ q _ _ _ _ => q.elim) fun ts2 h2 a2 C2 w2 k2 f2 s2 t2 => ?_
       split at k2
       ·rename_i g first cap hfn
        obtain ⟨x,y,hev,hargs⟩ := call_args (args := c.args) t2.reads hfn
        unfold wpList
        have hw : wantedD o1 ts2 df = some true := by simp only [wantedD,hdg]
        rw [wantedD_sound t2 hw,if_pos rfl]
        refine .inl ?_
        obtain ⟨callee,cargs,cats⟩ := c
        simp only at hcf hargs
        subst hcf
        have hrun : (execOp a2.eval df).run (T ()) w2 = .ok (.defer { target := .fn (.func g) y,args := x ++ cargs.map a2.eval }) w2 := by
         simp only [execOp,hdo,resolve,hev,Deferred.ofValue,Sem.run_bind,Sem.run_pure,Result.andThen_ok]
        unfold Oper.wp
        rw [hrun,Oper.upon_defer,hdd]
        have hap : ({ a2 with defers := { target := Target.fn (.func g) y,args := x ++ cargs.map a2.eval } :: a2.defers } : Act).put none undef = ap [{ target := Target.fn (.func g) y,args := x ++ cargs.map a2.eval }] a2 := by
         simp [ap,t2.defers,Act.put]
        rw [hap]
        show rest.wp (T ()) _ _ _
        have hargs' : ∀ {C' : Cx} {w' : World},Fw C2 w2 C' w' -> RdL C' w' (first ++ cargs.toList.map (dv ts2) ++ cap) (x.toList ++ (cargs.map a2.eval).toList ++ y.toList) := fun f' => by
         rw [Array.toList_map]
         exact RdL.mono f'.toEv _ _ hargs
        refine dx_sound hm rest k2 s2 t2 (fun ts' d h' a' C' w' v q f' s' t' rv => ?_) fun ex ts' h' a' C' w' k' f' s' t' => ?_
        ·obtain ⟨Q0,q1,q2⟩ := q.out
         have := leaves_one (fn := fn) (v := some v) q1 s' (hargs' f') rv t' (Q := K) q2
         show Leaves (T ()) fn a'.tmps _ (a'.defers ++ _) _ w'
         rw [t'.defers]
         exact leaves_mono (fun e w'' ⟨v,C'',d,h'',j1,j2,j3,j4,j5⟩ => ⟨v,C'',d,h'',j1,j2,(f1.trans (f2.trans f')).trans j3,j4,j5⟩) this
        ·have main : (ClosK T g (first ++ cargs.toList.map (dv ts2) ++ cap) h' none fun h'' => match resD (T ()) h'' ts' fn.results.toList with | some l => EndK K (oneD l) h'' | none => False) -> Leaves (T ()) fn a'.tmps (fun e w' => ∃ v C' d h',e = .returned v ∧ K d h' ∧ Fw C w C' w' ∧ Sim C' h' w' ∧ Rd C' w' d v) (a'.defers ++ [{ target := Target.fn (.func g) y,args := x ++ cargs.map a2.eval }]) .returning w' := fun q => by
          obtain ⟨Q0,q1,q2⟩ := q.out
          have := leaves_one (fn := fn) (v := none) q1 s' (hargs' f') trivial t' (Q := K) q2
          rw [t'.defers]
          exact leaves_mono (fun e w'' ⟨v,C'',d,h'',j1,j2,j3,j4,j5⟩ => ⟨v,C'',d,h'',j1,j2,(f1.trans (f2.trans f')).trans j3,j4,j5⟩) this
         cases ex with
         | normal => exact main k'
         | ret => exact main k'
         | exit j => exact k'.elim
       ·exact k2.elim
      ·exact e.elim
     ·exact e.elim
    ·exact e.elim
   ·exact e.elim
  ·exact e.elim
 ·exact e.elim
end
def ancB (md : Region.Mode) (ops : Array Oper) : Nat -> Nat -> Nat -> Bool
 | 0,_,_ => false
 | f + 1,t,i => match ops[t]? with
  | some o => (o.after.any fun e => Region.binds md e && e.on == i) || (o.after.any fun e => Region.binds md e && ancB md ops f e.on i)
  | none => false
def headWB (md : Region.Mode) (ops : Array Oper) (n : Nat) : Bool :=
 aheadB md ops && decide (n ≤ ops.size) && ((List.range (ops.size - n)).all fun d => (List.range n).all fun i => ancB md ops ops.size (n + d) i)
theorem anc_listed {md : Region.Mode} {ops : Array Oper} {n : Nat} {listed : Array Bool} (inv : HeadInv md ops n listed) : ∀ (f j i : Nat),(∀ oj,ops[j]? = some oj -> ∀ e ∈ oj.after,Region.binds md e = true -> listed.getD e.on false = true) -> ancB md ops f j i = true -> listed.getD i false = true
 | 0,j,i,_,h => by cases h
 | f + 1,j,i,hl,h => by
  unfold ancB at h
  split at h
  ·rename_i o ho
   simp only [Bool.or_eq_true] at h
   rcases h with h | h
   ·obtain ⟨e,he,hb⟩ := Array.any_eq_true'.1 h
    simp only [Bool.and_eq_true,beq_iff_eq] at hb
    have := hl o ho e he hb.1
    rwa [hb.2] at this
   ·obtain ⟨e,he,hb⟩ := Array.any_eq_true'.1 h
    simp only [Bool.and_eq_true] at hb
    have h1 := hl o ho e he hb.1
    exact anc_listed inv f e.on i (fun oj hoj e' he' hb' => inv.closed e.on oj hoj h1 e' he' hb') hb.2
  ·cases h
theorem headWB_spec {md : Region.Mode} {ops : Array Oper} {n : Nat} (h : headWB md ops n = true) : HeadW md ops n := by
 simp only [headWB,Bool.and_eq_true,decide_eq_true_eq] at h
 obtain ⟨⟨h1,h2⟩,h3⟩ := h
 refine ⟨h1,h2,fun listed i inv hi hun t ht hr => ?_⟩
 obtain ⟨_,o,ho,hall⟩ := mem_ready.1 hr
 have hts := (Array.getElem?_eq_some_iff.1 ho).1
 have h4 := List.all_eq_true.1 (List.all_eq_true.1 h3 (t - n) (List.mem_range.2 (by omega))) i (List.mem_range.2 hi)
 rw [show n + (t - n) = t by omega] at h4
 have h5 := anc_listed inv _ _ _ (fun oj hoj e he hb => by
  have : oj = o := Option.some.inj (hoj.symm.trans ho)
  subst this
  exact hall e he hb) h4
 rw [getD_both hun] at h5
 cases h5
def TailP (P : Program) (l : List Oper) (n : Nat) (ts : List D) (h : H) (K : List D -> H -> Prop) : Prop := ∀ (C : Cx) (w : World) (a : Act) (Q : Exit -> Act -> World -> Prop),Sim C h w -> TA C w ts a ->
 (∀ ts' h' a' C' w',K ts' h' -> Fw C w C' w' -> Sim C' h' w' -> TA C' w' ts' a' -> Q .normal a' w') -> wpAny P .any l.toArray Q (l.toArray.size - n) (doneA n (l.toArray.size - n)) a w
structure TailK (T : TP) (l : List Oper) (n : Nat) (ts : List D) (h : H) (K : List D -> H -> Prop) : Prop where
 out : TailP (T ()) l n ts h K
def statT (l : List Oper) (n : Nat) : Bool := (headWB .any l.toArray n && (waitsB l n && storeB l n)) && freshB l n
theorem DrawK.tail {T : TP} {l : List Oper} {ts : List D} {h : H} {K : List D -> H -> Prop} (j : Nat) (hm : (T ()).follows .mixedOrders = true) (hs : statT l (l.length - j) = true)
  (k : whrun T l (l.length - j) ts h (l.length - j) [] fun hs => StatK l (l.length - j) ts.length hs fun _ => TailK T l (l.length - j) (hfin l (l.length - j) hs (deadB l (l.length - j) hs) (l.length - j) ts h).1 (hfin l (l.length - j) hs (deadB l (l.length - j) hs) (l.length - j) ts h).2 K) : DrawK T l ts h K := by
 refine ⟨.inr (.inr (.inr fun id C w a Q s ta hk => ?_))⟩
 obtain ⟨hs',k1,k2⟩ := whrun_ok k (by simp) (fun i hi => absurd hi (Nat.not_lt_zero _))
 obtain ⟨⟨h1,h2⟩,h3⟩ := k2.out
 simp only [statT,Bool.and_eq_true] at hs
 exact adraw_coreW hm k1 (headWB_spec hs.1.1) (by simp only [staticW,Bool.and_eq_true];exact ⟨⟨h1,hs.1.2⟩,h2⟩) id s ta fun a1 C1 w1 f1 s1 t1 => h3.out C1 w1 a1 Q s1 t1 fun ts' h' a' C' w' k f' s' t' => hk ts' h' a' C' w' k (f1.trans f') s' t'
section
variable {P : Program} {ops : Array Oper} {Q : Exit -> Act -> World -> Prop}
theorem any_step {f : Nat} {listed : Array Bool} {a : Act} {w : World} {rs : List Nat} (hr : Region.ready .any ops listed = rs) (hne : rs ≠ []) (h : ∀ i ∈ rs,wpOp P ops Q i (wpAny P .any ops Q f (listed.setIfInBounds i true)) a w) : wpAny P .any ops Q (f + 1) listed a w := by
 subst hr
 exact ⟨fun h0 => absurd h0 hne,h⟩
theorem op_at {i : Nat} {o : Oper} {a : Act} {w : World} {K : Act -> World -> Prop} (ho : ops[i]? = some o) (hg : o.guard = none) (h : o.wp P a w K Q) : wpOp P ops Q i K a w := by
 unfold wpOp
 simp only [ho]
 rw [if_pos (by simp [Region.wanted,hg])]
 exact .inl h
theorem op_list {i : Nat} {o : Oper} {a : Act} {w : World} {K : Act -> World -> Prop} (ho : ops[i]? = some o) (h : wpList P ops (fun e a w => match e with | .normal => K a w | e => Q e a w) [o] a w) : wpOp P ops Q i K a w := by
 unfold wpOp
 simp only [ho]
 exact h
end
theorem eval_put_ne {a : Act} {t : Tmp} {v : Value} : ∀ {x : Operand},x ≠ .tmp t -> (a.put (some t) v).eval x = a.eval x
 | .tmp u,h => by
  have hut : t ≠ u := fun e => h (by rw [e])
  show (a.tmps.setIfInBounds t v).getD u undef = a.tmps.getD u undef
  simp [Array.getD_eq_getD_getElem?,Array.getElem?_setIfInBounds_ne hut]
 | .const _,_ => rfl
 | .global _,_ => rfl
 | .func _,_ => rfl
theorem eval_put_eq {a : Act} {t : Tmp} {v : Value} (h : t < a.tmps.size) : (a.put (some t) v).eval (.tmp t) = v := by
 show (a.tmps.setIfInBounds t v).getD t undef = v
 simp [Array.getD_eq_getD_getElem?,h]
section
variable {P : Program} {C : Cx} {h : H} {w : World}
end
theorem wlist_app {T : TP} {ops : Array Oper} {o : Oper} {l' : List Oper} {ts : List D} {h : H} {K : List D -> H -> Prop} (k : wlist T ops (o :: l') ts h K) : wlist T ops [o] ts h fun ts h => wlist T ops l' ts h K := by
 unfold wlist at k ⊢
 exact k
def ways3 (l : List Oper) (n : Nat) : Bool :=
 let r := Region.ready .any l.toArray
 let L0 := (doneA n 3).setIfInBounds n true
 let L1 := (doneA n 3).setIfInBounds (n + 1) true
 r (doneA n 3) == [n,n + 1] && (r L0 == [n + 1,n + 2] && (r L1 == [n] && (r (L0.setIfInBounds (n + 1) true) == [n + 2] && (r (L0.setIfInBounds (n + 2) true) == [n + 1] && (r (L1.setIfInBounds n true) == [n + 2] &&
  (r ((L0.setIfInBounds (n + 1) true).setIfInBounds (n + 2) true) == [] && (r ((L0.setIfInBounds (n + 2) true).setIfInBounds (n + 1) true) == [] && r ((L1.setIfInBounds n true).setIfInBounds (n + 2) true) == [])))))))
section
variable {P : Program} {C : Cx} {h : H} {w : World}
theorem rows_cells {F : D -> List D} {sz : Nat} : ∀ {ys : List D} {f : Nat -> Option Value},(∀ y ∈ ys,y = .agg (F y)) -> RdE C w sz ys f -> ∃ us : List Value,us.length = ys.length * sz ∧ (∀ j,j < ys.length * sz -> f j = us[j]?) ∧ (∀ c ∈ us,c.oneCell' = true) ∧ RdL C w (ys.map F).flatten us
 | [],_,_,_ => ⟨[],by simp,fun j hj => absurd hj (by simp),fun c hc => (by cases hc),rfl⟩
 | t :: r,f,hF,h => by
  obtain ⟨⟨u,h1,h2,h3,h4⟩,h5⟩ := h
  obtain ⟨us,k1,k2,k3,k4⟩ := rows_cells (fun y hy => hF y (List.mem_cons_of_mem _ hy)) h5
  rw [hF t (List.mem_cons_self ..)] at h1
  obtain ⟨vs,rfl,r1⟩ := h1
  have hl : vs.length = sz := by simpa [Value.cells] using h2
  refine ⟨vs ++ us,by simp [hl,k1,Nat.add_mul];omega,fun j hj => ?_,fun c hc => ?_,?_⟩
  ·by_cases h5 : j < sz
   ·have hj' : j < (Value.agg vs.toArray).cells.size := by simpa [Value.cells,hl] using h5
    rw [h4 j hj',List.getElem?_append_left (by omega),List.getElem?_eq_getElem (by omega)]
    simp [Value.cells]
   ·rw [List.getElem?_append_right (by omega),hl,← k2 (j - sz) (by simp [Nat.add_mul] at hj;omega)]
    show f j = f (sz + (j - sz))
    rw [show sz + (j - sz) = j by omega]
  ·rcases List.mem_append.1 hc with h | h
   ·exact h3 c (by simpa [Value.cells] using h)
   ·exact k3 c h
  ·simp only [List.map_cons,List.flatten_cons]
   exact r1.app k4
theorem zeros_rep (z : Array Value) (m : Nat) : (Builtin.zeroCells z m).toList.map D.raw = (List.replicate m (z.toList.map D.raw)).flatten := by
 have h := range_flat z m
 unfold Builtin.zeroCells
 rw [Array.toList_map,Array.toList_range]
 refine (congrArg (List.map D.raw) h).trans ?_
 rw [List.map_flatten,List.map_replicate]
theorem append_fresh (s : Sim C h w) {t ty e : TypeId} {inf : TypeInfo} {zs ys : List D} {tag : Option Nat} (ht : P.underlying t = some (.slice e)) (hi : P.info? e = some inf) (hz : zeroD P e = some zs) (hsz : 0 < inf.size)
  {v : Value} (hv : Rd C w (.sl tag inf.size ys) v) (hn : 0 < ys.length) (hr1 : ys.length ≤ 140737488355328) (hr2 : ys.length * inf.bytes ≤ 140737488355328) {F : D -> List D} (hF : ∀ y ∈ ys,y = .agg (F y)) (b0 : Nat) :
  ∃ v' C' w' m,(Builtin.append_ #[t,t] ty #[.slice (some ⟨b0,0,none⟩) 0 0,v]).run P w = .ok v' w' ∧ Fw C w C' w' ∧ Sim C' (h ++ [.box e (ys.map F ++ List.replicate m zs).flatten]) w' ∧ Rd C' w' (.ms h.length 0 ys.length) v' := by
 obtain ⟨i,z,hi2,hz2,hz3,hz4⟩ := zeroD_some hz
 rw [hi] at hi2
 cases hi2
 obtain ⟨_,h2,_⟩ := hv
 obtain ⟨b,off,cap,rfl,_,hr⟩ := h2 hn
 obtain ⟨us,k1,k2,k3,k4⟩ := rows_cells hF hr
 have hrun := run_append_grow (P := P) (w := w) t ty e inf z ht hi hz2 ⟨b0,0,none⟩ 0 0 [] (by simp) (by simp) ⟨b,off,none⟩ ys.length cap us k1 (fun j u hj => by
  rw [Addr.add_lit]
  have hlt := (List.getElem?_eq_some_iff.1 hj).1
  exact (k2 j (by omega)).trans hj) (by omega) (by simp only [Nat.zero_add];omega) (growslice_fits (by omega) (by rw [Nat.zero_add];exact hr2))
 simp only [Nat.zero_add,List.nil_append,Array.empty_append] at hrun
 have hge := grownCap_ge w ys.length 0 e
 have hle := grownCap_le_maxLen w ys.length 0 e (by unfold maxLen;omega)
 obtain ⟨s2,f2⟩ := s.drew
 obtain ⟨C',f3,s3,hb⟩ := s2.box_new e (vs := us.toArray ++ Builtin.zeroCells z.cells (grownCap w ys.length 0 e - ys.length)) (ds := (ys.map F ++ List.replicate (grownCap w ys.length 0 e - ys.length) zs).flatten) (by
  rw [Array.toList_append,List.flatten_append]
  refine (k4.mono f2.toEv).app ?_
  rw [hz4,← zeros_rep]
  exact RdL.raws _ _ _) (fun u hu => by
  rw [Array.toList_append] at hu
  rcases List.mem_append.1 hu with hu | hu
  ·exact k3 u (by simpa using hu)
  ·have : D.raw u ∈ (List.replicate (grownCap w ys.length 0 e - ys.length) (z.cells.toList.map D.raw)).flatten := by rw [← zeros_rep];exact List.mem_map_of_mem hu
   obtain ⟨l,hl1,hl2⟩ := List.mem_flatten.1 this
   rw [List.eq_of_mem_replicate hl1] at hl2
   obtain ⟨u',hu',e'⟩ := List.mem_map.1 hl2
   cases e'
   exact hz3 _ hu')
 exact ⟨_,C',_,_,hrun,f2.trans f3,s3,⟨_,_,hb,rfl,hge,hle⟩⟩
end
def copyB (l : List Oper) : Bool :=
 let r := Region.ready .any l.toArray
 let L := Array.replicate 6 false
 let A := (L.setIfInBounds 0 true).setIfInBounds 1 true
 let B := (L.setIfInBounds 1 true).setIfInBounds 0 true
 let D := (L.setIfInBounds 1 true).setIfInBounds 2 true
 let fin := fun X : Array Bool => r X == [3] && (r (X.setIfInBounds 3 true) == [4] && (r ((X.setIfInBounds 3 true).setIfInBounds 4 true) == [5] && r (((X.setIfInBounds 3 true).setIfInBounds 4 true).setIfInBounds 5 true) == []))
 r L == [0,1] && (r (L.setIfInBounds 0 true) == [1] && (r (L.setIfInBounds 1 true) == [0,2] && (r A == [2] && (r B == [2] && (r D == [0] && (fin (A.setIfInBounds 2 true) && (fin (B.setIfInBounds 2 true) && fin (D.setIfInBounds 0 true))))))))
theorem DrawK.copy {T : TP} {l : List Oper} {ts : List D} {h : H} {K : List D -> H -> Prop} {o0 o1 o2 o3 o4 o5 : Oper} {d0 d1 d2 d3 : Tmp} {t e : Nat} {sz bytes : Nat} {tag : Option Nat} {ys zs : List D} {x1 : D}
  (hm : (T ()).follows .mixedOrders = true) (he : ElemIs (T ()) t e sz bytes) (hz : zeroD (T ()) e = some zs) (F : D -> List D) (hb : copyB l = true) (hl : l = [o0,o1,o2,o3,o4,o5])
  (a1 : o0.op = .buildSlice t 0 #[]) (a2 : o0.guard = none) (a3 : o0.dst = some d0) (b2 : o1.guard = none) (b3 : o1.dst = some d1) (c2 : o2.guard = none) (c3 : o2.dst = some d2)
  (e1 : o3.op = .call { callee := .builtin .append,args := #[.tmp d0,.tmp d2],argTypes := #[t,t] }) (e2 : o3.guard = none) (e3 : o3.dst = some d3)
  (hls : leafSize (T ()) e = true) (hbr : buildRow (T ()) t 0 [] = some (e,sz,[]))
  (s1 : sop (T ()) (dv ts) o1 h = some x1) (s2 : sop (T ()) (dv (ts.set d1 x1)) o2 h = some (.sl tag sz ys)) (s1' : sop (T ()) (dv (ts.set d0 .any)) o1 h = some x1) (s2' : sop (T ()) (dv ((ts.set d0 .any).set d1 x1)) o2 h = some (.sl tag sz ys))
  (n1 : d0 ≠ d1) (n2 : d0 ≠ d2) (n3 : d1 ≠ d2) (n4 : Nat.blt d0 ts.length = true) (n5 : Nat.blt d2 ts.length = true)
  (hn : 0 < ys.length) (hr1 : ys.length ≤ 140737488355328) (hr2 : ys.length * bytes ≤ 140737488355328) (hF : ∀ y ∈ ys,y = .agg (F y))
  (k : ∀ m E,E = ys.map F ++ List.replicate m zs -> wlist T l.toArray [o4,o5] ((((ts.set d0 .any).set d1 x1).set d2 (.sl tag sz ys)).set d3 (.ms h.length 0 ys.length)) (h ++ [.box e E.flatten]) K) : DrawK T l ts h K := by
 refine ⟨.inr (.inr (.inr fun id C w a Q S ta hk => wp_region_any hm ?_))⟩
 obtain ⟨inf,g1,rfl,rfl,g4⟩ := he.out
 obtain ⟨u1,u2⟩ := elemP_some g1
 have n4 : d0 < ts.length := by simpa [Nat.blt_eq] using n4
 have n5 : d2 < ts.length := by simpa [Nat.blt_eq] using n5
 have htl : ts.length = a.tmps.size := by have := ta.rd.len;simpa using this
 obtain ⟨S0,f0⟩ := S.drew
 have ta0 := ta.mono f0.toEv
 show wpAny _ _ _ _ _ _ _ w.drew
 have opB : ∀ {KK : Act -> World -> Prop} (aX : Act) (wX : World),KK (aX.put (some d0) (.slice (some ⟨wX.heap.size,0,none⟩) 0 0)) (wX.alloc (.cells #[] e)) -> o0.wp (T ()) aX wX KK Q := fun {KK} aX wX hK => by
  have hside : ∀ i dd,(T ()).info? e = some i -> (T ()).underlying e = some dd -> dd.isRow = false -> i.size = 1 := fun i dd h1 h2 h3 => by
   unfold leafSize at hls
   rw [h1,h2] at hls
   simp only [Bool.or_eq_true,beq_iff_eq] at hls
   rcases hls with hls | hls
   ·rw [h3] at hls;cases hls
   ·exact hls
  have hp : PartsRd C wX [] (#[] : Array (Nat × Value)).toList := by
   refine ⟨fun j => by simp,fun j p q hp hq => by simp at hp⟩
  obtain ⟨cv,k1,k2,k3,k4,k5⟩ := buildRow_core (P := T ()) (w := wX) hp hbr hside
  have hcv : cv = #[] := Array.eq_empty_of_size_eq_zero (by simpa using k2)
  subst hcv
  refine wp_of_value (v := .slice (some ⟨wX.heap.size,0,none⟩) 0 0) (w' := wX.alloc (.cells #[] e)) ?_ (by rw [a3];exact hK)
  have he0 : ((#[] : Array (Nat × Operand)).map fun (i,x) => (i,aX.eval x)) = #[] := by simp
  simp only [execOp,a1,Sem.run_bind,he0,k1]
  try rfl
 have at_ : ∀ {i : Nat} {o : Oper},l[i]? = some o -> l.toArray[i]? = some o := fun h => by simpa using h
 have q0 : l.toArray[0]? = some o0 := at_ (by rw [hl];rfl)
 have q1 : l.toArray[1]? = some o1 := at_ (by rw [hl];rfl)
 have q2 : l.toArray[2]? = some o2 := at_ (by rw [hl];rfl)
 have q3 : l.toArray[3]? = some o3 := at_ (by rw [hl];rfl)
 have q4 : l.toArray[4]? = some o4 := at_ (by rw [hl];rfl)
 have q5 : l.toArray[5]? = some o5 := at_ (by rw [hl];rfl)
 have fin : ∀ (L : Array Bool) (C1 : Cx) (w1 : World) (aX : Act) (b0 : Nat),(Region.ready .any l.toArray L = [3] ∧ Region.ready .any l.toArray (L.setIfInBounds 3 true) = [4] ∧ Region.ready .any l.toArray ((L.setIfInBounds 3 true).setIfInBounds 4 true) = [5] ∧ Region.ready .any l.toArray (((L.setIfInBounds 3 true).setIfInBounds 4 true).setIfInBounds 5 true) = []) ->
   Fw C w C1 w1 -> Sim C1 h w1 -> TA C1 w1 (((ts.set d0 .any).set d1 x1).set d2 (.sl tag inf.size ys)) aX -> aX.eval (.tmp d0) = .slice (some ⟨b0,0,none⟩) 0 0 -> wpAny (T ()) .any l.toArray Q 3 L aX w1 := fun L C1 w1 aX b0 ⟨r3,r4,r5,r6⟩ f1 sX tX hd0 => by
  have hv2 := tX.reads (.tmp d2)
  have e2' : dv (((ts.set d0 .any).set d1 x1).set d2 (.sl tag inf.size ys)) (.tmp d2) = .sl tag inf.size ys := by
   show (((ts.set d0 .any).set d1 x1).set d2 (.sl tag inf.size ys)).getD d2 .any = _
   simp [List.getD_eq_getElem?_getD,n5]
  rw [e2'] at hv2
  obtain ⟨v',C2,w2,m,j1,j2,j3,j4⟩ := append_fresh (P := T ()) (ty := o3.type) sX u1 u2 hz g4.1 hv2 hn hr1 hr2 hF b0
  refine any_step r3 (by simp) fun i hi => ?_
  obtain rfl : i = 3 := by simpa using hi
  refine op_at q3 e2 (wp_of_value (v := v') (w' := w2) ?_ ?_)
  ·simp only [execOp,e1,Sem.run_bind,resolve,invoke,builtin,Sem.run_pure,Result.andThen_ok,List.map_toArray,List.map_cons,List.map_nil,hd0,j1]
  ·have t2 := (tX.mono j2.toEv).put j4 (some d3)
   rw [e3]
   refine any_step r4 (by simp) fun i hi => ?_
   obtain rfl : i = 4 := by simpa using hi
   refine op_list q4 (wlist_sound (wlist_app (l' := [o5]) (k m _ rfl)) j3 t2 fun ts4 h4 a4 C4 w4 k4 f4 s4 t4 => ?_)
   refine any_step r5 (by simp) fun i hi => ?_
   obtain rfl : i = 5 := by simpa using hi
   refine op_list q5 (wlist_sound k4 s4 t4 fun ts5 h5 a5 C5 w5 k5 f5 s5 t5 => ?_)
   exact ⟨r6,hk _ _ _ _ _ k5 ((((f1.trans j2)).trans f4).trans f5) s5 t5⟩
 simp only [copyB,Bool.and_eq_true,beq_iff_eq] at hb
 obtain ⟨r0,r1,r2,rA,rB,rD,hA,hB,hD⟩ := hb
 have hsize : l.toArray.size = 6 := by rw [hl];rfl
 rw [hsize]
 have alX := fun {C1 : Cx} {w1 : World} (sX : Sim C1 h w1) => And.intro (sX.alloc (.cells #[] e) (fun _ => False)) (Fw.alloc sX (.cells #[] e) (fun _ => False))
 have lt0 : ∀ {aX : Act},aX.tmps.size = a.tmps.size -> d0 < aX.tmps.size := fun h => by rw [h,← htl];exact n4
 refine any_step r0 (by simp) fun i hi => ?_
 rcases (by simpa using hi : i = 0 ∨ i = 1) with rfl | rfl
 ·refine op_at q0 a2 (opB _ _ ?_)
  obtain ⟨S1,F1⟩ := alX S0
  have t1 := (ta0.mono F1.toEv).put (d := .any) (v := .slice (some ⟨w.drew.heap.size,0,none⟩) 0 0) trivial (some d0)
  refine any_step r1 (by simp) fun i hi => ?_
  obtain rfl : i = 1 := by simpa using hi
  obtain ⟨v1,y1,y2⟩ := sop_sound S1 t1.reads s1'
  refine op_at q1 b2 (wp_of_value y1 ?_)
  rw [b3]
  have t2 := t1.put y2 (some d1)
  refine any_step rA (by simp) fun i hi => ?_
  obtain rfl : i = 2 := by simpa using hi
  obtain ⟨v2,y3,y4⟩ := sop_sound S1 t2.reads s2'
  refine op_at q2 c2 (wp_of_value y3 ?_)
  rw [c3]
  refine fin _ _ _ _ w.drew.heap.size hA (f0.trans F1) S1 (t2.put y4 (some d2)) ?_
  rw [eval_put_ne (fun e => n2 (by cases e;rfl)),eval_put_ne (fun e => n1 (by cases e;rfl))]
  exact eval_put_eq (lt0 rfl)
 ·obtain ⟨v1,y1,y2⟩ := sop_sound S0 ta0.reads s1
  refine op_at q1 b2 (wp_of_value y1 ?_)
  rw [b3]
  have t1 := ta0.put y2 (some d1)
  refine any_step r2 (by simp) fun i hi => ?_
  rcases (by simpa using hi : i = 0 ∨ i = 2) with rfl | rfl
  ·refine op_at q0 a2 (opB _ _ ?_)
   obtain ⟨S1,F1⟩ := alX S0
   have t2 := (t1.mono F1.toEv).put (d := .any) (v := .slice (some ⟨w.drew.heap.size,0,none⟩) 0 0) trivial (some d0)
   have t2' := t2
   rw [show putD (putD ts (some d1) x1) (some d0) .any = (ts.set d0 .any).set d1 x1 from List.set_comm _ _ (fun e => n1 e.symm)] at t2'
   refine any_step rB (by simp) fun i hi => ?_
   obtain rfl : i = 2 := by simpa using hi
   obtain ⟨v2,y3,y4⟩ := sop_sound S1 t2'.reads s2'
   refine op_at q2 c2 (wp_of_value y3 ?_)
   rw [c3]
   refine fin _ _ _ _ w.drew.heap.size hB (f0.trans F1) S1 (t2'.put y4 (some d2)) ?_
   rw [eval_put_ne (fun e => n2 (by cases e;rfl))]
   exact eval_put_eq (by rw [show (a.put (some d1) v1).tmps.size = a.tmps.size from Array.size_setIfInBounds ..];exact lt0 rfl)
  ·obtain ⟨v2,y3,y4⟩ := sop_sound S0 t1.reads s2
   refine op_at q2 c2 (wp_of_value y3 ?_)
   rw [c3]
   have t2 := t1.put y4 (some d2)
   refine any_step rD (by simp) fun i hi => ?_
   obtain rfl : i = 0 := by simpa using hi
   refine op_at q0 a2 (opB _ _ ?_)
   obtain ⟨S1,F1⟩ := alX S0
   have t3 := (t2.mono F1.toEv).put (d := .any) (v := .slice (some ⟨w.drew.heap.size,0,none⟩) 0 0) trivial (some d0)
   have t3' := t3
   rw [show putD (putD (putD ts (some d1) x1) (some d2) (.sl tag inf.size ys)) (some d0) .any = ((ts.set d0 .any).set d1 x1).set d2 (.sl tag inf.size ys) from (List.set_comm _ _ (fun e => n2 e.symm)).trans (congrArg (fun l => List.set l d2 (D.sl tag inf.size ys)) (List.set_comm _ _ (fun e => n1 e.symm)))] at t3'
   refine fin _ _ _ _ w.drew.heap.size hD (f0.trans F1) S1 t3' ?_
   exact eval_put_eq (by rw [show ((a.put (some d1) v1).put (some d2) v2).tmps.size = a.tmps.size from (Array.size_setIfInBounds ..).trans (Array.size_setIfInBounds ..)];exact lt0 rfl)
theorem TailK.late {T : TP} {l : List Oper} {n : Nat} {ts : List D} {h h2 : H} {K : List D -> H -> Prop} {o0 o1 o2 : Oper} {d0 d1 : Tmp} {x0 x1 : D} {tD : TypeId} {pD : Operand} (hb : ways3 l n = true) (hlen : l.length = n + 3)
  (h0 : l[n]? = some o0) (a2 : o0.guard = none) (a3 : o0.dst = some d0) (h1 : l[n + 1]? = some o1) (b2 : o1.guard = none) (b3 : o1.dst = some d1) (hh2 : l[n + 2]? = some o2) (c1 : o2.op = .store tD pD (.tmp d0)) (c2 : o2.guard = none) (c3 : o2.dst = none)
  (n1 : d0 ≠ d1) (n2 : pD ≠ .tmp d0) (n3 : pD ≠ .tmp d1) (n4 : Nat.blt d0 ts.length = true)
  (s0 : sop (T ()) (dv ts) o0 h = some x0) (s1 : sop (T ()) (dv (ts.set d0 x0)) o1 h = some x1) (s1' : sop (T ()) (dv (ts.set d0 x0)) o1 h2 = some x1) (s1'' : sop (T ()) (dv ts) o1 h = some x1) (s0' : sop (T ()) (dv (ts.set d1 x1)) o0 h = some x0)
  (sd : storeD (T ()) h tD (dv ts pD) x0 = some h2) (k : K ((ts.set d0 x0).set d1 x1) h2) : TailK T l n ts h K := by
 refine ⟨fun C w a Q s ta hk => ?_⟩
 have n4 : d0 < ts.length := by simpa [Nat.blt_eq] using n4
 have htl : ts.length = a.tmps.size := by have := ta.rd.len;simpa using this
 have at_ : ∀ {i : Nat} {o : Oper},l[i]? = some o -> l.toArray[i]? = some o := fun h => by simpa using h
 have hsize : l.toArray.size - n = 3 := by simp [hlen]
 rw [hsize]
 simp only [ways3,Bool.and_eq_true,beq_iff_eq] at hb
 obtain ⟨b0,b1,b2',b3',b4,b5,b6,b7,b8⟩ := hb
 have opS : ∀ {KK : Act -> World -> Prop} {aX : Act} {wX : World} {C1 : Cx},Sim C1 h wX -> Rd C1 wX x0 (aX.eval (.tmp d0)) -> Rd C1 wX (dv ts pD) (aX.eval pD) -> (∀ w2,Fw C1 wX C1 w2 -> Sim C1 h2 w2 -> KK aX w2) -> o2.wp (T ()) aX wX KK Q := fun {KK aX wX C1} sX r1 r2 hK => by
  obtain ⟨w2,k1,k2,k3⟩ := storeD_sound sX r2 r1 sd
  have : (execOp aX.eval o2).run (T ()) wX = .ok .skip w2 := by
   simp only [execOp,c1,Sem.run_bind,k1]
   try rfl
  unfold Oper.wp
  rw [this]
  show KK (Act.put _ o2.dst undef) _
  rw [c3]
  exact hK w2 k2 k3
 have hpD := ta.reads pD
 refine any_step b0 (by simp) fun i hi => ?_
 rcases (by simpa using hi : i = n ∨ i = n + 1) with rfl | rfl
 ·obtain ⟨v0,y1,y2⟩ := sop_sound s ta.reads s0
  refine op_at (at_ h0) a2 (wp_of_value y1 ?_)
  rw [a3]
  have t1 := ta.put y2 (some d0)
  have e0 : (a.put (some d0) v0).eval (.tmp d0) = v0 := eval_put_eq (by rw [← htl];exact n4)
  refine any_step b1 (by simp) fun i' hi' => ?_
  rcases (by simpa using hi' : i' = i + 1 ∨ i' = i + 2) with rfl | rfl
  ·obtain ⟨v1,y3,y4⟩ := sop_sound s t1.reads s1
   refine op_at (at_ h1) b2 (wp_of_value y3 ?_)
   rw [b3]
   have t2 := t1.put y4 (some d1)
   refine any_step b3' (by simp) fun i2' hi2 => ?_
   obtain rfl : i2' = i + 2 := by simpa using hi2
   refine op_at (at_ hh2) c2 (opS s ?_ ?_ fun w2 f2 s2 => ⟨b6,hk _ _ _ _ _ k f2 s2 (t2.mono f2.toEv)⟩)
   ·rw [eval_put_ne (fun e => n1 (by cases e;rfl)),e0]
    exact y2
   ·rw [eval_put_ne n3,eval_put_ne n2]
    exact hpD
  ·refine op_at (at_ hh2) c2 (opS s ?_ ?_ fun w2 f2 s2 => ?_)
   ·rw [e0]
    exact y2
   ·rw [eval_put_ne n2]
    exact hpD
   refine any_step b4 (by simp) fun i2' hi2 => ?_
   obtain rfl : i2' = i + 1 := by simpa using hi2
   have t1' := t1.mono f2.toEv
   obtain ⟨v1,y3,y4⟩ := sop_sound s2 t1'.reads s1'
   refine op_at (at_ h1) b2 (wp_of_value y3 ?_)
   rw [b3]
   exact ⟨b7,hk _ _ _ _ _ k f2 s2 (t1'.put y4 (some d1))⟩
 ·obtain ⟨v1,y3,y4⟩ := sop_sound s ta.reads s1''
  refine op_at (at_ h1) b2 (wp_of_value y3 ?_)
  rw [b3]
  have t1 := ta.put y4 (some d1)
  refine any_step b2' (by simp) fun i' hi' => ?_
  obtain rfl : i' = n := by simpa using hi'
  obtain ⟨v0,y1,y2⟩ := sop_sound s t1.reads s0'
  refine op_at (at_ h0) a2 (wp_of_value y1 ?_)
  rw [a3]
  have t2 := t1.put y2 (some d0)
  rw [show putD (putD ts (some d1) x1) (some d0) x0 = (ts.set d0 x0).set d1 x1 from List.set_comm _ _ (fun e => n1 e.symm)] at t2
  have e0 : ((a.put (some d1) v1).put (some d0) v0).eval (.tmp d0) = v0 := eval_put_eq (by rw [show (a.put (some d1) v1).tmps.size = a.tmps.size from Array.size_setIfInBounds ..,← htl];exact n4)
  refine any_step b5 (by simp) fun i2' hi2 => ?_
  obtain rfl : i2' = i' + 2 := by simpa using hi2
  refine op_at (at_ hh2) c2 (opS s ?_ ?_ fun w2 f2 s2 => ⟨b8,hk _ _ _ _ _ k f2 s2 (t2.mono f2.toEv)⟩)
  ·rw [e0]
   exact y2
  ·rw [eval_put_ne n2,eval_put_ne n3]
   exact hpD
end Go.Proofs.YtkoabcncdjmoeaaGreatDoor.Pv

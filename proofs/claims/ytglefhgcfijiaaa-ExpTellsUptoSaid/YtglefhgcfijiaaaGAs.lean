/- The program's iterator over an expression's expressions (exp.expressions; tree.Nodes, its closure, tree.visit, for expressions): what a range over it is handed, for every loop body. -/
import Derived.Test.YtglefhgcfijiaaaGAi
import Derived.Test.YtglefhgcfijiaaaGAh
set_option linter.unusedSimpArgs false
set_option linter.unusedVariables false
set_option maxRecDepth 1000000
set_option maxHeartbeats 40000000
namespace Go.Proofs.Ytglefhgcfijiaaa
open Go.RowKit Go.Shelf Pv
attribute [local go_sem] Oper.semAt_some
variable {G : Nat -> Nat -> Prop}
def ExIn (G : Nat -> Nat -> Prop) (w : World) (e : Ex7) (v0 v1 v2 v3 v4 v5 v6 : Value) : Prop := okE e ∧ nodesE e ≤ 1000000 ∧ (∀ b o,G b o -> b < w.heap.size) ∧ Pv.Rd (bare G) w (exD e) (.agg #[v0,v1,v2,v3,v4,v5,v6])
theorem ev_below {w w' : World} (hG : ∀ b o,G b o -> b < w.heap.size) (h : Below w.heap.size w w') : Ev (bare G) w (bare G) w' := by
 refine ⟨h.os,h.tape,h.output,h.size,fun b o hs => hs,fun b o hs => ?_,?_,?_⟩
 ·have hb : w'.heap[b]? = w.heap[b]? := h.block b (hG b o hs)
  simp only [World.cell?,hb]
 ·intro id b e
  cases e
 ·intro id u e
  cases e
theorem ExIn.below {w w' : World} {e : Ex7} {v0 v1 v2 v3 v4 v5 v6 : Value} (h : ExIn G w e v0 v1 v2 v3 v4 v5 v6) (hb : Below w.heap.size w w') : ExIn G w' e v0 v1 v2 v3 v4 v5 v6 :=
 ⟨h.1,h.2.1,fun b o hs => Nat.lt_of_lt_of_le (h.2.2.1 b o hs) hb.size,Rd.mono (ev_below h.2.2.1 hb) _ _ h.2.2.2⟩
theorem ExIn.form {w : World} {k n : Int} {nm : ByteArray} {hs : Bool} {ts : List Ty5} {ls : List ByteArray} {ks : List Ex7} {v0 v1 v2 v3 v4 v5 v6 : Value} (h : ExIn G w (.mk k n nm hs ts ls ks) v0 v1 v2 v3 v4 v5 v6) :
  ∃ (a4 : Option Addr) (c4 : Nat) (a5 : Option Addr) (c5 : Nat) (a6 : Option Addr) (c6 : Nat),v0 = .int .i64 k ∧ v1 = .int .i64 n ∧ v2 = .string nm ∧ v3 = .bool hs ∧ v4 = .slice a4 ts.length c4 ∧ v5 = .slice a5 ls.length c5 ∧ v6 = .slice a6 ks.length c6 ∧ ks.length ≤ maxLen ∧ ts.length ≤ maxLen ∧
   Pv.Rd (bare G) w (.sl none 5 (tysD ts)) (.slice a4 ts.length c4) ∧
   ∀ (j : Nat) (t : Ex7),ks[j]? = some t -> ∃ b off,a6 = some ⟨b,off,none⟩ ∧ ∃ u0 u1 u2 u3 u4 u5 u6,w.cell? ⟨b,off + j * 7,none⟩ = some u0 ∧ w.cell? ⟨b,off + j * 7 + 1,none⟩ = some u1 ∧ w.cell? ⟨b,off + j * 7 + 2,none⟩ = some u2 ∧ w.cell? ⟨b,off + j * 7 + 3,none⟩ = some u3 ∧ w.cell? ⟨b,off + j * 7 + 4,none⟩ = some u4 ∧ w.cell? ⟨b,off + j * 7 + 5,none⟩ = some u5 ∧ w.cell? ⟨b,off + j * 7 + 6,none⟩ = some u6 ∧ ExIn G w t u0 u1 u2 u3 u4 u5 u6 := by
 obtain ⟨ho,hn,hG,h⟩ := h
 simp only [exD] at h
 obtain ⟨vs,e,u0,r0,rfl,q0,u1,r1,rfl,q1,u2,r2,rfl,q2,u3,r3,rfl,q3,u4,r4,rfl,q4,u5,r5,rfl,q5,u6,r6,rfl,q6,q7⟩ := h
 simp only [Pv.RdL] at q7
 subst q7
 simp only [Value.agg.injEq,Array.mk.injEq,List.cons.injEq,and_true] at e
 obtain ⟨rfl,rfl,rfl,rfl,rfl,rfl,rfl⟩ := e
 simp only [Pv.Rd] at q0 q1 q2 q3
 have q4' := q4
 obtain ⟨⟨a4,c4,rfl,_,hc4⟩,_,_⟩ := q4
 obtain ⟨⟨a5,c5,rfl,_,_⟩,_,_⟩ := q5
 obtain ⟨⟨a6,c6,rfl,hc6,hc6'⟩,hx,_⟩ := q6
 have hl : (exsD ks).length = ks.length := exs_len ks
 have hl4 : (tysD ts).length = ts.length := tys_len ts
 have hl5 : (ls.map strD).length = ls.length := List.length_map ..
 simp only [hl,hl4,hl5] at *
 refine ⟨a4,c4,a5,c5,a6,c6,q0,q1,q2,q3,rfl,rfl,rfl,by omega,by omega,q4',fun j t hj => ?_⟩
 have hlt := (List.getElem?_eq_some_iff.1 hj).1
 obtain ⟨b,off,cap',hv,_,hr⟩ := hx (by omega)
 simp at hv
 obtain ⟨rfl,rfl⟩ := hv
 obtain ⟨u,k1,k2,_,k4⟩ := hr.get (i := j) (d := exD t) (by rw [exsD_map,List.getElem?_map,hj];rfl)
 have k1' := k1
 obtain ⟨k',n',nm',hs',ts',ls',ks'⟩ := t
 simp only [exD] at k1
 obtain ⟨vs,rfl,u0,r0,rfl,_,u1,r1,rfl,_,u2,r2,rfl,_,u3,r3,rfl,_,u4,r4,rfl,_,u5,r5,rfl,_,u6,r6,rfl,_,q7⟩ := k1
 simp only [Pv.RdL] at q7
 subst q7
 refine ⟨b,off,rfl,u0,u1,u2,u3,u4,u5,u6,?_,?_,?_,?_,?_,?_,?_,okEL_get ho.2.2.2 _ (List.mem_of_getElem? hj),?_,hG,k1'⟩
 ·simpa [Value.cells] using k4 0 (by simp [Value.cells])
 ·simpa [Value.cells,Nat.add_assoc] using k4 1 (by simp [Value.cells])
 ·simpa [Value.cells,Nat.add_assoc] using k4 2 (by simp [Value.cells])
 ·simpa [Value.cells,Nat.add_assoc] using k4 3 (by simp [Value.cells])
 ·simpa [Value.cells,Nat.add_assoc] using k4 4 (by simp [Value.cells])
 ·simpa [Value.cells,Nat.add_assoc] using k4 5 (by simp [Value.cells])
 ·simpa [Value.cells,Nat.add_assoc] using k4 6 (by simp [Value.cells])
 ·have := nodesEL_mem (List.mem_of_getElem? hj)
  simp only [nodesE] at hn this ⊢
  omega
structure Ne (G : Nat -> Nat -> Prop) (w0 : World) where
 d : Int
 t : Ex7
 v0 : Value
 v1 : Value
 v2 : Value
 v3 : Value
 v4 : Value
 v5 : Value
 v6 : Value
 h : ExIn G w0 t v0 v1 v2 v3 v4 v5 v6
def Ne.key {w0 : World} (x : Ne G w0) : Int × Ex7 := (x.d,x.t)
def Ne.vals {w0 : World} (x : Ne G w0) : Array Value := #[.int .i64 x.d,.agg #[x.v0,x.v1,x.v2,x.v3,x.v4,x.v5,x.v6]]
mutual
def walkE (d : Int) : Ex7 -> List (Int × Ex7)
 | .mk k n nm hs ts ls ks => (d,.mk k n nm hs ts ls ks) :: walkEL (wrap64 (d + 1)) ks
def walkEL (d : Int) : List Ex7 -> List (Int × Ex7)
 | [] => []
 | t :: r => walkE d t ++ walkEL d r
end
theorem walkEL_app (d : Int) : ∀ a b : List Ex7,walkEL d (a ++ b) = walkEL d a ++ walkEL d b
 | [],b => by simp [walkEL]
 | t :: r,b => by
  rw [List.cons_append]
  simp only [walkEL]
  rw [walkEL_app d r b,List.append_assoc]
theorem walkEL_step (d : Int) {ks : List Ex7} {j : Nat} {t : Ex7} (h : ks[j]? = some t) : walkEL d (ks.take (j + 1)) = walkEL d (ks.take j) ++ walkE d t := by
 rw [ex_take h,walkEL_app]
 simp [walkEL]
theorem walkEL_part (d : Int) (ks : List Ex7) (j : Nat) : walkEL d (ks.take j) <+: walkEL d ks := by
 have := walkEL_app d (ks.take j) (ks.drop j)
 rw [List.take_append_drop] at this
 rw [this]
 exact List.prefix_append _ _
def KpE (n0 : Nat) (S : Nat -> Prop) (A B : World) : Prop := Below n0 A B ∧ ∀ k vs fr,A.heap[k]? = some (.cells vs 26 fr) -> ¬ S k -> B.heap[k]? = some (.cells vs 26 fr)
theorem kpE_t {n0 : Nat} {S : Nat -> Prop} {A B C : World} (h : KpE n0 S A B) (k : KpE n0 S B C) : KpE n0 S A C := ⟨h.1.trans k.1,fun i vs fr hi hs => k.2 i vs fr (h.2 i vs fr hi hs) hs⟩
theorem kpE_b {n0 : Nat} {S : Nat -> Prop} {w : World} (hn : n0 ≤ w.heap.size) (W : World) (l : Nat) (o o' : Obj) (hl : w.heap.size ≤ l) (h : W.heap[l]? = some o) (hc : o.isCells = false) (hw : o.isWalk = false) : KpE n0 S W (W.putObj l o') :=
 ⟨belowK_b hn W l o o' hl h hc hw,fun k vs fr hk _ => by
  by_cases e : k = l
  ·subst e
   rw [h] at hk
   cases hk
   cases hc
  ·exact (World.putObj_heap_other e).trans hk⟩
theorem KpE.refl (n0 : Nat) (S : Nat -> Prop) (A : World) : KpE n0 S A A := ⟨Below.refl _ _,fun _ _ _ h _ => h⟩
theorem KpE.of_below {n0 : Nat} {S : Nat -> Prop} {A B : World} (hn : n0 ≤ A.heap.size) (h : Below A.heap.size A B) : KpE n0 S A B := ⟨h.mono hn,fun k vs fr hk _ => (h.block k (Array.getElem?_eq_some_iff.1 hk).1).trans hk⟩
theorem KpE.store {n0 : Nat} {S : Nat -> Prop} (A : World) {b i : Nat} (hS : S b) (hn : n0 ≤ b) (v : Value) : KpE n0 S A (A.setCell ⟨b,i,none⟩ v) :=
 ⟨(Below.refl _ _).setCell (p := ⟨b,i,none⟩) hn v,fun k vs fr hk hs => (Below.heap_setCell _ _ _ _ (fun e => hs (by rw [e];exact hS))).trans hk⟩
theorem kids_any (v0 v1 v2 v3 v4 v5 v6 : Value) (w : World) : Calls Try.prog 54 #[.agg #[v0,v1,v2,v3,v4,v5,v6]] w fun e w' =>
  e = .returned v6 ∧ w' = w.alloc (.cells #[v0,v1,v2,v3,v4,v5,v6] 26) := by
 go_enter Try.func54,Try.ntmps54
 go_wp2
 go_ret
 exact ⟨rfl,rfl⟩
theorem visitE_in (w0 : World) (l N c : Nat) (S : Nat -> Prop) (hS : ∀ k,S k -> k < c) (J Jx : List (Ne G w0) -> World -> Prop)
  (hJa : ∀ pre W o,J pre W -> J pre (W.alloc o))
  (hY : ∀ m pre x W,J pre W -> pre.length < N -> YieldAt Fence.wide m Try.prog l (Ne.vals x) W fun e W' =>
   (e = .returned (.bool true) ∧ J (pre ++ [x]) W' ∧ KpE w0.heap.size S W W') ∨ (e = .returned (.bool false) ∧ Jx (pre ++ [x]) W')) :
  ∀ (f : Nat) (t : Ex7) (d : Int) (v0 v1 v2 v3 v4 v5 v6 : Value) (n : Nat) (pre : List (Ne G w0)) (W : World),szE t ≤ f -> ExIn G w0 t v0 v1 v2 v3 v4 v5 v6 -> J pre W -> Below w0.heap.size w0 W -> c ≤ W.heap.size -> pre.length + (walkE d t).length ≤ N ->
  CallsIn Fence.wide n Try.prog 69 #[.int .i64 d,.agg #[v0,v1,v2,v3,v4,v5,v6],.func (.func 54) #[] #[],.func (.yield l) #[] #[]] W fun e W' =>
   (e = .returned (.bool true) ∧ ∃ xs : List (Ne G w0),xs.map Ne.key = walkE d t ∧ J (pre ++ xs) W' ∧ Below w0.heap.size W W') ∨
   (e = .returned (.bool false) ∧ ∃ q : List (Ne G w0),q.map Ne.key <+: walkE d t ∧ Jx (pre ++ q) W')
 | 0,t,_,_,_,_,_,_,_,_,_,_,_,h,_,_,_,_,_ => absurd (szE_pos t) (by omega)
 | f + 1,.mk k n nm hs ts ls ks,d,v0,v1,v2,v3,v4,v5,v6,m,pre,W,hz,hT,hJ,hB,hc,hN => by
  have hdd : ∀ k : Nat,(Fence.wide.depth.isSome = true -> 1 ≤ k) := fun k h => by rw [depth_wide] at h;cases h
  have hfv : Fence.wide.fn 69 := trivial
  have hfp : Fence.wide.fn 54 := trivial
  have HT := Asd.mk hT
  obtain ⟨a4,c4,a5,c5,a6,c6,rfl,rfl,rfl,rfl,rfl,rfl,rfl,hk,_,_,h4⟩ := hT.form
  unfold maxLen at hk
  simp only [walkE,List.length_cons] at hN
  have HK : Asd (walkE d (.mk k n nm hs ts ls ks) = (d,.mk k n nm hs ts ls ks) :: walkEL (wrap64 (d + 1)) ks) := ⟨by simp [walkE]⟩
  have IH := Asd.mk (visitE_in w0 l N c S hS J Jx hJa hY f)
  obtain ⟨x,hx⟩ : ∃ x : Ne G w0,x = ⟨d,.mk k n nm hs ts ls ks,.int .i64 k,.int .i64 n,.string nm,.bool hs,.slice a4 ts.length c4,.slice a5 ls.length c5,.slice a6 ks.length c6,HT.out⟩ := ⟨_,rfl⟩
  have hW1 : Below W.heap.size W (W.alloc (.cells #[.int .i64 k,.int .i64 n,.string nm,.bool hs,.slice a4 ts.length c4,.slice a5 ls.length c5,.slice a6 ks.length c6] 26)) := (Below.refl _ _).alloc (Nat.le_refl _) _
  have hbox : (W.alloc (.cells #[.int .i64 k,.int .i64 n,.string nm,.bool hs,.slice a4 ts.length c4,.slice a5 ls.length c5,.slice a6 ks.length c6] 26)).heap[W.heap.size]? = some (.cells #[.int .i64 k,.int .i64 n,.string nm,.bool hs,.slice a4 ts.length c4,.slice a5 ls.length c5,.slice a6 ks.length c6] 26 (0,0)) := World.alloc_heap_new W _
  have hy1 := hY (m - 1) pre x _ (hJa pre W (.cells #[.int .i64 k,.int .i64 n,.string nm,.bool hs,.slice a4 ts.length c4,.slice a5 ls.length c5,.slice a6 ks.length c6] 26) hJ) (by omega)
  have hy2 := YieldAt.mono (R' := fun e W' => (e = .returned (.bool true) ∧ Asd (J (pre ++ [x]) W' ∧ Below w0.heap.size W W') ∧ W'.cell? ⟨W.heap.size,0,none⟩ = some (.int .i64 k) ∧ W'.cell? ⟨W.heap.size,1,none⟩ = some (.int .i64 n) ∧ W'.cell? ⟨W.heap.size,2,none⟩ = some (.string nm) ∧ W'.cell? ⟨W.heap.size,3,none⟩ = some (.bool hs) ∧ W'.cell? ⟨W.heap.size,4,none⟩ = some (.slice a4 ts.length c4) ∧ W'.cell? ⟨W.heap.size,5,none⟩ = some (.slice a5 ls.length c5) ∧ W'.cell? ⟨W.heap.size,6,none⟩ = some (.slice a6 ks.length c6)) ∨ (e = .returned (.bool false) ∧ Asd (Jx (pre ++ [x]) W'))) hy1 (fun e W' h => h.elim
   (fun ⟨he,hj,hk⟩ => .inl (by
    have hb := hk.2 _ _ _ hbox (fun h => by have := hS _ h;omega)
    exact ⟨he,⟨hj,(hW1.mono hB.size).trans hk.1⟩,box_cell (i := 0) hb rfl,box_cell (i := 1) hb rfl,box_cell (i := 2) hb rfl,box_cell (i := 3) hb rfl,box_cell (i := 4) hb rfl,box_cell (i := 5) hb rfl,box_cell (i := 6) hb rfl⟩)) (fun ⟨he,hj⟩ => .inr ⟨he,⟨hj⟩⟩))
  clear hy1 hbox
  subst hx
  dsimp only [Ne.vals] at hy2
  obtain ⟨fn,tmps,assign,body,hy,hR⟩ := hy2
  have HN := Asd.mk hN
  have HZ := Asd.mk hz
  have H4 := Asd.mk h4
  have HB := Asd.mk hB
  have HC := Asd.mk hc
  have HW1 := Asd.mk hW1
  have HJ := Asd.mk hJ
  have HYY := Asd.mk hY
  clear hN hz h4 hB hc hW1 hJ hY hT
  refine callsIn_of_wp Try.func69 rfl trivial ?_ rfl
  simp only [Try.ntmps69,List.size_toArray,List.length_cons,List.length_nil,Nat.reduceAdd,Nat.reduceSub,Array.replicate_succ,Array.replicate_zero,List.push_toArray,List.append_toArray,List.nil_append,List.cons_append]
  gi_wp2_with ((try refine ⟨hdd _,?_⟩);first | (gi_at_call 54;refine (callsIn_wide.2 (kids_any _ _ _ _ _ _ _ _)).mono ?_;rintro e w' ⟨rfl,rfl⟩) | (refine hR.mono ?_;clear hR;rintro e W2 (⟨rfl,HJ2,b0,b1,b2,b3,b4,b5,b6⟩ | ⟨rfl,HJ2⟩)))
  ·
   have HJ3 := Asd.mk (hJa _ _ (.cells #[.int .i64 k,.int .i64 n,.string nm,.bool hs,.slice a4 ts.length c4,.slice a5 ls.length c5,.slice a6 ks.length c6] 26) HJ2.out.1)
   have HB4 := Asd.mk (HJ2.out.2.alloc (Nat.le_trans HB.out.size HJ2.out.2.size) (.cells #[.int .i64 k,.int .i64 n,.string nm,.bool hs,.slice a4 ts.length c4,.slice a5 ls.length c5,.slice a6 ks.length c6] 26))
   clear b0 b1 b2 b3 b4 b5 b6
   gi_loopw [20] (fun i wr => ∃ j : Nat,j ≤ ks.length ∧ i = .int .i64 j ∧ Asd (∃ xs : List (Ne G w0),xs.map Ne.key = (d,Ex7.mk k n nm hs ts ls ks) :: walkEL (wrap64 (d + 1)) (ks.take j) ∧ J (pre ++ xs) wr ∧ Below w0.heap.size W wr)) (fun i _ => ks.length - (intOf i).toNat)
   case atStart => exact ⟨0,by omega,rfl,⟨_,by simp [walkEL,Ne.key],HJ3.out,HB4.out⟩⟩
   case round =>
    obtain ⟨j,hj,rfl,HX⟩ := hrel
    by_cases hlt : j < ks.length
    ·obtain ⟨t,ht⟩ : ∃ t,ks[j]? = some t := ⟨_,List.getElem?_eq_getElem hlt⟩
     obtain ⟨b,off,rfl,x0,x1,x2,x3,x4,x5,x6,c0,c1,c2,c3,c4',c5',c6',hu⟩ := H4.out j t ht
     obtain ⟨xs,hxs,hJx,hBx⟩ := HX.out
     have hBw := HB.out.trans hBx
     have c0 := cell_below hBw c0
     have c1 := cell_below hBw c1
     have c2 := cell_below hBw c2
     have c3 := cell_below hBw c3
     have c4' := cell_below hBw c4'
     have c5' := cell_below hBw c5'
     have c6' := cell_below hBw c6'
     have hsz : szE t ≤ f := by
      have h1 := HZ.out
      have h2 := szEL_mem (List.mem_of_getElem? ht)
      simp only [szE] at h1
      omega
     have hlen : (pre ++ xs).length + (walkE (wrap64 (d + 1)) t).length ≤ N := by
      have h1 := HN.out
      have h2 := congrArg List.length hxs
      have h3 := congrArg List.length (walkEL_step (wrap64 (d + 1)) ht)
      have h5 := (walkEL_part (wrap64 (d + 1)) ks (j + 1)).length_le
      simp only [List.length_map,List.length_cons,List.length_append] at h2 h3 ⊢
      omega
     have hstep := Asd.mk (walkEL_step (wrap64 (d + 1)) ht)
     obtain ⟨k',n',nm',hs',ts',ls',ks'⟩ := t
     have hu' := hu
     obtain ⟨a4',c4x,a5',c5x,a6',c6x,rfl,rfl,rfl,rfl,rfl,rfl,rfl,_,_,_,_⟩ := hu'.form
     have hB3 : Below w0.heap.size wr (wr.alloc (.cells #[.int .i64 k',.int .i64 n',.string nm',.bool hs',.slice a4' ts'.length c4x,.slice a5' ls'.length c5x,.slice a6' ks'.length c6x] 26)) := (Below.refl _ _).alloc hBw.size _
     have hC := Asd.mk (IH.out (.mk k' n' nm' hs' ts' ls' ks') (wrap64 (d + 1)) (.int .i64 k') (.int .i64 n') (.string nm') (.bool hs') (.slice a4' ts'.length c4x) (.slice a5' ls'.length c5x) (.slice a6' ks'.length c6x) (m - 1) (pre ++ xs) (wr.alloc (.cells #[.int .i64 k',.int .i64 n',.string nm',.bool hs',.slice a4' ts'.length c4x,.slice a5' ls'.length c5x,.slice a6' ks'.length c6x] 26)) hsz hu (hJa _ _ _ hJx) (hBw.trans hB3) (by have := HC.out;have := hBx.size;have := hB3.size;omega) hlen)
     have HXS := Asd.mk hxs
     have HB3 := Asd.mk hB3
     have HBX := Asd.mk hBx
     clear hxs hB3 hBx hBw hJx hu hu' HX hlen hsz ht
     gi_wp2_with ((try refine ⟨hdd _,?_⟩);gi_at_call 69;refine hC.out.mono ?_;clear hC;rintro e W3 (⟨rfl,ys,hk3,hJ3,hb3⟩ | ⟨rfl,q,hq,hx3⟩))
     ·have HK3 := Asd.mk hk3
      have HJ3 := Asd.mk hJ3
      have HBB := Asd.mk hb3
      clear hk3 hJ3 hb3
      go_roundw
      case rel => exact ⟨j + 1,by omega,by go_num,⟨xs ++ ys,by rw [List.map_append,HXS.out,HK3.out,hstep.out,List.cons_append],by rw [← List.append_assoc];exact HJ3.out,HBX.out.trans (HB3.out.trans HBB.out)⟩⟩
      case measure => simp [intOf];omega
     ·go_ret
      refine .inr ⟨rfl,xs ++ q,?_,by rw [← List.append_assoc];exact hx3⟩
      rw [List.map_append,HXS.out,HK.out,List.cons_append]
      refine List.cons_prefix_cons.2 ⟨rfl,?_⟩
      refine List.IsPrefix.trans ?_ (walkEL_part (wrap64 (d + 1)) ks (j + 1))
      rw [hstep.out]
      exact (List.prefix_append_right_inj _).2 hq
    ·have : j = ks.length := by omega
     subst this
     obtain ⟨xs,hxs,hJx,hBx⟩ := HX.out
     clear HX
     gi_wp2
     go_ret
     exact .inl ⟨rfl,xs,by rw [hxs,HK.out,List.take_length],hJx,hBx⟩
  ·go_ret
   exact .inr ⟨rfl,_,by rw [HK.out];simp [Ne.key],HJ2.out⟩
def exprW (w : World) (v0 v1 v2 v3 v4 v5 v6 : Value) : World :=
 ((w.alloc (.cells #[v0,v1,v2,v3,v4,v5,v6] 26)).alloc (.cells #[v0,v1,v2,v3,v4,v5,v6] 26)).alloc (.cells #[.func (.func 54) #[] #[]] 68)
theorem exprW_size (w : World) (v0 v1 v2 v3 v4 v5 v6 : Value) : (exprW w v0 v1 v2 v3 v4 v5 v6).heap.size = w.heap.size + 3 := by simp [exprW]
theorem exprW_root (w : World) (v0 v1 v2 v3 v4 v5 v6 : Value) : (exprW w v0 v1 v2 v3 v4 v5 v6).heap[w.heap.size + 1]? = some (.cells #[v0,v1,v2,v3,v4,v5,v6] 26 (0,0)) := by
 unfold exprW
 rw [Below.heap_alloc _ _ _ (by simp)]
 have := World.alloc_heap_new (w.alloc (.cells #[v0,v1,v2,v3,v4,v5,v6] 26)) (.cells #[v0,v1,v2,v3,v4,v5,v6] 26)
 rwa [World.size_alloc] at this
theorem exprW_parts (w : World) (v0 v1 v2 v3 v4 v5 v6 : Value) : (exprW w v0 v1 v2 v3 v4 v5 v6).heap[w.heap.size + 1 + 1]? = some (.cells #[.func (.func 54) #[] #[]] 68 (0,0)) := by
 have := World.alloc_heap_new ((w.alloc (.cells #[v0,v1,v2,v3,v4,v5,v6] 26)).alloc (.cells #[v0,v1,v2,v3,v4,v5,v6] 26)) (.cells #[.func (.func 54) #[] #[]] 68)
 rwa [World.size_alloc,World.size_alloc] at this
theorem below_exprW {B : Nat} {w0 w : World} (h : Below B w0 w) (hB : B ≤ w.heap.size) (v0 v1 v2 v3 v4 v5 v6 : Value) : Below B w0 (exprW w v0 v1 v2 v3 v4 v5 v6) :=
 ((h.alloc hB _).alloc (by simp;omega) _).alloc (by simp;omega) _
theorem boxed_exprW {W : World} {B : Nat} {t : TypeId} {v : Value} (h : Boxed W B t v) (v0 v1 v2 v3 v4 v5 v6 : Value) : Boxed (exprW W v0 v1 v2 v3 v4 v5 v6) B t v := ((h.alloc _).alloc _).alloc _
theorem enodes_any (v0 v1 v2 v3 v4 v5 v6 : Value) (w : World) : Calls Try.prog 53 #[.agg #[v0,v1,v2,v3,v4,v5,v6],.func (.func 54) #[] #[]] w fun e w' =>
  e = .returned (.func (.func 68) #[] #[.pointer (some ⟨w.heap.size,0,none⟩),.pointer (some ⟨w.heap.size + 1,0,none⟩)]) ∧ w' = (w.alloc (.cells #[v0,v1,v2,v3,v4,v5,v6] 26)).alloc (.cells #[.func (.func 54) #[] #[]] 68) := by
 go_enter Try.func53,Try.ntmps53
 go_wp2
 go_ret
 refine ⟨?_,rfl⟩
 simp
theorem exprs_any (v0 v1 v2 v3 v4 v5 v6 : Value) (w : World) : Calls Try.prog 32 #[.agg #[v0,v1,v2,v3,v4,v5,v6]] w fun e w' =>
  e = .returned (.func (.func 68) #[] #[.pointer (some ⟨w.heap.size + 1,0,none⟩),.pointer (some ⟨w.heap.size + 1 + 1,0,none⟩)]) ∧ w' = exprW w v0 v1 v2 v3 v4 v5 v6 := by
 go_enter Try.func32,Try.ntmps32
 go_wp2_with (go_at_call 53;refine (enodes_any v0 v1 v2 v3 v4 v5 v6 _).mono ?_;rintro e w' ⟨rfl,rfl⟩)
 go_ret
 refine ⟨?_,rfl⟩
 simp
theorem exprs1_in (n l Bt Bp c : Nat) (S : Nat -> Prop) (hS : ∀ k,S k -> k < c) (w0 : World) (t : Ex7) (v0 v1 v2 v3 v4 v5 v6 : Value) (hT : ExIn G w0 t v0 v1 v2 v3 v4 v5 v6) (J Jx : List (Ne G w0) -> World -> Prop)
  (hJa : ∀ pre W o,J pre W -> J pre (W.alloc o))
  (hY : ∀ pre x W,J pre W -> pre.length < (walkE 1 t).length -> YieldAt Fence.wide (n - 1) Try.prog l (Ne.vals x) W fun e W' =>
   (e = .returned (.bool true) ∧ J (pre ++ [x]) W' ∧ KpE w0.heap.size S W W') ∨ (e = .returned (.bool false) ∧ Jx (pre ++ [x]) W'))
  (W : World) (hBt : ∀ i v,(#[v0,v1,v2,v3,v4,v5,v6] : Array Value)[i]? = some v -> W.cell? ⟨Bt,i,none⟩ = some v) (hBp : W.cell? ⟨Bp,0,none⟩ = some (.func (.func 54) #[] #[])) (h0 : J [] W) (hB : Below w0.heap.size w0 W) (hc : c ≤ W.heap.size) :
  CallsIn Fence.wide n Try.prog 68 #[.func (.yield l) #[] #[],.pointer (some ⟨Bt,0,none⟩),.pointer (some ⟨Bp,0,none⟩)] W fun e W' => (∃ v,e = .returned v) ∧
   ((∃ xs : List (Ne G w0),xs.map Ne.key = walkE 1 t ∧ J xs W') ∨ (∃ pre : List (Ne G w0),pre.map Ne.key <+: walkE 1 t ∧ Jx pre W')) := by
 have hdd : ∀ k : Nat,(Fence.wide.depth.isSome = true -> 1 ≤ k) := fun k h => by rw [depth_wide] at h;cases h
 have hfv : Fence.wide.fn 69 := trivial
 have hp := Asd.mk (visitE_in w0 l (walkE 1 t).length c S hS J Jx hJa (fun m pre x W hj hl => yieldAt_anyDepth depth_wide m (hY pre x W hj hl)) (szE t) t 1 v0 v1 v2 v3 v4 v5 v6 (n - 1) [] W (Nat.le_refl _) hT h0 hB hc (by simp))
 have b0 := hBt 0 _ rfl
 have b1 := hBt 1 _ rfl
 have b2 := hBt 2 _ rfl
 have b3 := hBt 3 _ rfl
 have b4 := hBt 4 _ rfl
 have b5 := hBt 5 _ rfl
 have b6 := hBt 6 _ rfl
 clear hY hT hB h0 hBt
 refine callsIn_of_wp Try.func68 rfl trivial ?_ rfl
 simp only [Try.ntmps68,List.size_toArray,List.length_cons,List.length_nil,Nat.reduceAdd,Nat.reduceSub,Array.replicate_succ,Array.replicate_zero,List.push_toArray,List.append_toArray,List.nil_append,List.cons_append]
 gi_wp2_with ((try refine ⟨hdd _,?_⟩);gi_at_call 69;refine hp.out.mono ?_;clear hp;rintro e W1 (⟨rfl,xs,hk,hJ1,_⟩ | ⟨rfl,q,hq,hx⟩))
 ·go_end0
  exact ⟨⟨_,rfl⟩,.inl ⟨xs,hk,by simpa using hJ1⟩⟩
 ·go_end0
  exact ⟨⟨_,rfl⟩,.inr ⟨q,hq,by simpa using hx⟩⟩
theorem exprs_stops (n Bt Bp c : Nat) (S : Nat -> Prop) (hS : ∀ k,S k -> k < c) (w0 w : World) (t : Ex7) (v0 v1 v2 v3 v4 v5 v6 : Value) (hT : ExIn G w0 t v0 v1 v2 v3 v4 v5 v6) (hB : Below w0.heap.size w0 w) (hc : c ≤ w.heap.size)
  (hBt : w.heap[Bt]? = some (.cells #[v0,v1,v2,v3,v4,v5,v6] 26 (0,0))) (hBp : w.heap[Bp]? = some (.cells #[.func (.func 54) #[] #[]] 68 (0,0))) :
  SeqStopsK Fence.wide n Try.prog 68 #[.pointer (some ⟨Bt,0,none⟩),.pointer (some ⟨Bp,0,none⟩)] (Ne.vals (G := G) (w0 := w0)) (KpE w0.heap.size S) (fun xs => xs.map Ne.key = walkE 1 t) (fun pre => pre.map Ne.key <+: walkE 1 t) (walkE 1 t).length w :=
 fun l J Jx W hW hJ _ hY h0 =>
  exprs1_in n l Bt Bp c S hS w0 t v0 v1 v2 v3 v4 v5 v6 hT J Jx (fun pre A o h => hJ pre A _ none h (World.grownBy_alloc A o none) (fun r e => by cases e)) hY W
   (fun i v hi => box_cell ((hW.block Bt (Array.getElem?_eq_some_iff.1 hBt).1).trans hBt) hi) (box_cell ((hW.block Bp (Array.getElem?_eq_some_iff.1 hBp).1).trans hBp) rfl) h0 (hB.trans (hW.mono hB.size)) (Nat.le_trans hc hW.size)
end Go.Proofs.Ytglefhgcfijiaaa

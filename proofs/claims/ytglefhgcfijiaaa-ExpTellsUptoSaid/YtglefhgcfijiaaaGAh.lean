/- Parts of the proof: TyIt, TyC, TyM, TyVm, TyPu, BdP, BdV. -/
import Derived.RangeFuncNested
import Derived.RangeFuncBound
import Derived.RangeFuncCalls
import Derived.RangeFuncLeaves
import Derived.Shelf.Abstract
import Derived.Shelf.RegionOpen
import Derived.OwnWalkIn
import Derived.TacticsInMore
import Derived.LoopNIn
import Derived.LoopIn
import Derived.Test.YtglefhgcfijiaaaRows
import Derived.Lib.SlicesCompact
import Derived.Sort.Walk0
import Derived.Sort.OwnSorted
import Derived.Test.YtglefhgcfijiaaaGAe
import Derived.Test.YtglefhgcfijiaaaGAf
import Derived.Test.YtglefhgcfijiaaaGAg
set_option linter.unusedSimpArgs false
set_option linter.unusedVariables false
set_option maxRecDepth 1000000
set_option maxHeartbeats 40000000
namespace Go.Proofs.Ytglefhgcfijiaaa
open Go.RowKit Go.Shelf
attribute [local go_sem] Oper.semAt_some
structure Nd (w0 : World) where
 d : Int
 t : Ty5
 v0 : Value
 v1 : Value
 v2 : Value
 v3 : Value
 v4 : Value
 h : TyIn w0 t v0 v1 v2 v3 v4
def Nd.key {w0 : World} (x : Nd w0) : Int × Ty5 := (x.d,x.t)
def Nd.vals {w0 : World} (x : Nd w0) : Array Value := #[.int .i64 x.d,.agg #[x.v0,x.v1,x.v2,x.v3,x.v4]]
mutual
def walkT (d : Int) : Ty5 -> List (Int × Ty5)
 | .mk k n nm ls ks => (d,.mk k n nm ls ks) :: walkL (wrap64 (d + 1)) ks
def walkL (d : Int) : List Ty5 -> List (Int × Ty5)
 | [] => []
 | t :: r => walkT d t ++ walkL d r
end
theorem walkL_app (d : Int) : ∀ a b : List Ty5,walkL d (a ++ b) = walkL d a ++ walkL d b
 | [],b => by simp [walkL]
 | t :: r,b => by
  rw [List.cons_append]
  simp only [walkL]
  rw [walkL_app d r b,List.append_assoc]
theorem walkL_step (d : Int) {ks : List Ty5} {j : Nat} (h : j < ks.length) : walkL d (ks.take (j + 1)) = walkL d (ks.take j) ++ walkT d (kAt ks j) := by
 rw [take_kAt h,walkL_app]
 simp [walkL]
theorem walkL_part (d : Int) (ks : List Ty5) (j : Nat) : walkL d (ks.take j) <+: walkL d ks := by
 have := walkL_app d (ks.take j) (ks.drop j)
 rw [List.take_append_drop] at this
 rw [this]
 exact List.prefix_append _ _
def KpS (n0 : Nat) (S : Nat -> Prop) (A B : World) : Prop := Below n0 A B ∧ ∀ k vs fr,A.heap[k]? = some (.cells vs 38 fr) -> ¬ S k -> B.heap[k]? = some (.cells vs 38 fr)
theorem kpS_t {n0 : Nat} {S : Nat -> Prop} {A B C : World} (h : KpS n0 S A B) (k : KpS n0 S B C) : KpS n0 S A C := ⟨h.1.trans k.1,fun i vs fr hi hs => k.2 i vs fr (h.2 i vs fr hi hs) hs⟩
theorem kpS_b {n0 : Nat} {S : Nat -> Prop} {w : World} (hn : n0 ≤ w.heap.size) (W : World) (l : Nat) (o o' : Obj) (hl : w.heap.size ≤ l) (h : W.heap[l]? = some o) (hc : o.isCells = false) (hw : o.isWalk = false) : KpS n0 S W (W.putObj l o') :=
 ⟨belowK_b hn W l o o' hl h hc hw,fun k vs fr hk _ => by
  by_cases e : k = l
  ·subst e
   rw [h] at hk
   cases hk
   cases hc
  ·exact (World.putObj_heap_other e).trans hk⟩
theorem KpS.refl (n0 : Nat) (S : Nat -> Prop) (A : World) : KpS n0 S A A := ⟨Below.refl _ _,fun _ _ _ h _ => h⟩
theorem KpS.of_below {n0 : Nat} {S : Nat -> Prop} {A B : World} (hn : n0 ≤ A.heap.size) (h : Below A.heap.size A B) : KpS n0 S A B := ⟨h.mono hn,fun k vs fr hk _ => (h.block k (Array.getElem?_eq_some_iff.1 hk).1).trans hk⟩
theorem KpS.store {n0 : Nat} {S : Nat -> Prop} (A : World) {b i : Nat} (hS : S b) (hn : n0 ≤ b) (v : Value) : KpS n0 S A (A.setCell ⟨b,i,none⟩ v) :=
 ⟨(Below.refl _ _).setCell (p := ⟨b,i,none⟩) hn v,fun k vs fr hk hs => (Below.heap_setCell _ _ _ _ (fun e => hs (by rw [e];exact hS))).trans hk⟩
theorem keepsFrom_below {B : Nat} {A C : World} (h : Below A.heap.size A C) : KeepsFrom B A C := ⟨h.size,fun k o _ hk _ => (h.block k (Array.getElem?_eq_some_iff.1 hk).1).trans hk⟩
theorem box_cell {W : World} {B : Nat} {vs : Array Value} {t : TypeId} {i : Nat} {v : Value} (h : W.heap[B]? = some (.cells vs t (0,0))) (hi : vs[i]? = some v) : W.cell? ⟨B,i,none⟩ = some v := by
 simp [World.cell?,h,hi]
theorem TyIn.form {w : World} : ∀ {t : Ty5} {v0 v1 v2 v3 v4 : Value},TyIn w t v0 v1 v2 v3 v4 -> ∃ (k n : Int) (nm : ByteArray) (a : Option Addr) (l c : Nat) (a' : Option Addr) (l' c' : Nat),v0 = .int .i64 k ∧ v1 = .int .i64 n ∧ v2 = .string nm ∧ v3 = .slice a l c ∧ v4 = .slice a' l' c'
 | .mk k n nm ls ks,v0,v1,v2,v3,v4,h => by
  obtain ⟨h0,h1,⟨h2,_⟩,⟨_,_,h3⟩,_,h5⟩ := h
  obtain ⟨a,l,c,e3⟩ : ∃ a l c,v3 = .slice a l c := by
   rcases h3 with ⟨a,cap,rfl,_⟩ | ⟨b,off,cap,rfl,_⟩
   ·exact ⟨_,_,_,rfl⟩
   ·exact ⟨_,_,_,rfl⟩
  obtain ⟨a',l',c',e4⟩ : ∃ a l c,v4 = .slice a l c := by
   rcases h5 with ⟨a,cap,rfl,_⟩ | ⟨b,off,cap,rfl,_⟩
   ·exact ⟨_,_,_,rfl⟩
   ·exact ⟨_,_,_,rfl⟩
  exact ⟨_,_,_,_,_,_,_,_,_,h0,h1,h2,e3,e4⟩
theorem zip2 (T : Array Value) (p q : Nat) (a b : Value) : (#[p,q].zip #[a,b]).foldl (fun t x => t.setIfInBounds x.fst x.snd) T = (T.setIfInBounds p a).setIfInBounds q b := by
 simp
theorem room_of_none {F : Fence} (hd : F.depth = none) (k : Nat) : F.room k := fun d h => by rw [hd] at h;cases h
theorem roundIn_anyDepth {F : Fence} (hd : F.depth = none) {m m' : Nat} {P : Program} {l : Nat} {f : FuncId} {tmps : Array Value} {assign body : Code} {w : World} {R : Ending -> World -> Prop}
  (h : RoundIn F m P l f tmps assign body w R) : RoundIn F m' P l f tmps assign body w R := ⟨h.1,fun c cs _ => h.2 c cs (room_of_none hd _)⟩
theorem yieldAt_anyDepth {F : Fence} (hd : F.depth = none) {m : Nat} (m' : Nat) {P : Program} {l : Nat} {args : Array Value} {W : World} {R : Ending -> World -> Prop} (h : YieldAt F m P l args W R) : YieldAt F m' P l args W R := by
 obtain ⟨fn,tmps,assign,body,hy,hR⟩ := h
 exact ⟨fn,tmps,assign,body,hy,roundIn_anyDepth hd hR⟩
theorem depth_wide : Fence.wide.depth = none := rfl
theorem parts_any (v0 v1 v2 v3 v4 : Value) (w : World) : Calls Try.prog 77 #[.agg #[v0,v1,v2,v3,v4]] w fun e w' =>
  e = .returned v4 ∧ w' = w.alloc (.cells #[v0,v1,v2,v3,v4] 38) := by
 go_enter Try.func77,Try.ntmps77
 go_wp2
 go_ret
 exact ⟨rfl,rfl⟩
theorem visit_in (w0 : World) (l N c : Nat) (S : Nat -> Prop) (hS : ∀ k,S k -> k < c) (J Jx : List (Nd w0) -> World -> Prop)
  (hJa : ∀ pre W o,J pre W -> J pre (W.alloc o))
  (hY : ∀ m pre x W,J pre W -> pre.length < N -> YieldAt Fence.wide m Try.prog l (Nd.vals x) W fun e W' =>
   (e = .returned (.bool true) ∧ J (pre ++ [x]) W' ∧ KpS w0.heap.size S W W') ∨ (e = .returned (.bool false) ∧ Jx (pre ++ [x]) W')) :
  ∀ (f : Nat) (t : Ty5) (d : Int) (v0 v1 v2 v3 v4 : Value) (n : Nat) (pre : List (Nd w0)) (W : World),szT t ≤ f -> TyIn w0 t v0 v1 v2 v3 v4 -> J pre W -> Below w0.heap.size w0 W -> c ≤ W.heap.size -> pre.length + (walkT d t).length ≤ N ->
  CallsIn Fence.wide n Try.prog 88 #[.int .i64 d,.agg #[v0,v1,v2,v3,v4],.func (.func 77) #[] #[],.func (.yield l) #[] #[]] W fun e W' =>
   (e = .returned (.bool true) ∧ ∃ xs : List (Nd w0),xs.map Nd.key = walkT d t ∧ J (pre ++ xs) W' ∧ Below w0.heap.size W W') ∨
   (e = .returned (.bool false) ∧ ∃ q : List (Nd w0),q.map Nd.key <+: walkT d t ∧ Jx (pre ++ q) W')
 | 0,t,_,_,_,_,_,_,_,_,_,h,_,_,_,_,_ => absurd (szT_pos t) (by omega)
 | f + 1,.mk k n nm ls ks,d,v0,v1,v2,v3,v4,m,pre,W,hz,hT,hJ,hB,hc,hN => by
  have hdd : ∀ k : Nat,(Fence.wide.depth.isSome = true -> 1 ≤ k) := fun k h => by rw [depth_wide] at h;cases h
  have hfv : Fence.wide.fn 88 := trivial
  have hfp : Fence.wide.fn 77 := trivial
  have HT := Asd.mk hT
  obtain ⟨rfl,rfl,⟨rfl,hm⟩,hl,hk,h4⟩ := hT
  unfold maxLen at hk
  obtain ⟨a4,cap4,e4⟩ : ∃ a cap,v4 = .slice a ks.length cap := by
   rcases h4 with ⟨a,cap,rfl,rfl⟩ | ⟨b,off,cap,rfl,_⟩
   ·exact ⟨a,cap,rfl⟩
   ·exact ⟨_,cap,rfl⟩
  subst e4
  simp only [walkT,List.length_cons] at hN
  have HK : Asd (walkT d (.mk k n nm ls ks) = (d,.mk k n nm ls ks) :: walkL (wrap64 (d + 1)) ks) := ⟨by simp [walkT]⟩
  have IH := Asd.mk (visit_in w0 l N c S hS J Jx hJa hY f)
  obtain ⟨x,hx⟩ : ∃ x : Nd w0,x = ⟨d,.mk k n nm ls ks,.int .i64 k,.int .i64 n,.string nm,v3,.slice a4 ks.length cap4,HT.out⟩ := ⟨_,rfl⟩
  have hW1 : Below W.heap.size W (W.alloc (.cells #[.int .i64 k,.int .i64 n,.string nm,v3,.slice a4 ks.length cap4] 38)) := (Below.refl _ _).alloc (Nat.le_refl _) _
  have hbox : (W.alloc (.cells #[.int .i64 k,.int .i64 n,.string nm,v3,.slice a4 ks.length cap4] 38)).heap[W.heap.size]? = some (.cells #[.int .i64 k,.int .i64 n,.string nm,v3,.slice a4 ks.length cap4] 38 (0,0)) := World.alloc_heap_new W _
  have hy1 := hY (m - 1) pre x _ (hJa pre W (.cells #[.int .i64 k,.int .i64 n,.string nm,v3,.slice a4 ks.length cap4] 38) hJ) (by omega)
  have hy2 := YieldAt.mono (R' := fun e W' => (e = .returned (.bool true) ∧ Asd (J (pre ++ [x]) W' ∧ Below w0.heap.size W W') ∧ W'.cell? ⟨W.heap.size,0,none⟩ = some (.int .i64 k) ∧ W'.cell? ⟨W.heap.size,1,none⟩ = some (.int .i64 n) ∧ W'.cell? ⟨W.heap.size,2,none⟩ = some (.string nm) ∧ W'.cell? ⟨W.heap.size,3,none⟩ = some v3 ∧ W'.cell? ⟨W.heap.size,4,none⟩ = some (.slice a4 ks.length cap4)) ∨ (e = .returned (.bool false) ∧ Asd (Jx (pre ++ [x]) W'))) hy1 (fun e W' h => h.elim
   (fun ⟨he,hj,hk⟩ => .inl (by
    have hb := hk.2 _ _ _ hbox (fun h => by have := hS _ h;omega)
    exact ⟨he,⟨hj,(hW1.mono hB.size).trans hk.1⟩,box_cell (i := 0) hb rfl,box_cell (i := 1) hb rfl,box_cell (i := 2) hb rfl,box_cell (i := 3) hb rfl,box_cell (i := 4) hb rfl⟩)) (fun ⟨he,hj⟩ => .inr ⟨he,⟨hj⟩⟩))
  clear hy1 hbox
  subst hx
  dsimp only [Nd.vals] at hy2
  obtain ⟨fn,tmps,assign,body,hy,hR⟩ := hy2
  have HN := Asd.mk hN
  have HZ := Asd.mk hz
  have H4 := Asd.mk h4
  have HB := Asd.mk hB
  have HC := Asd.mk hc
  have HW1 := Asd.mk hW1
  have HJ := Asd.mk hJ
  have HYY := Asd.mk hY
  clear hN hz h4 hB hc hW1 hJ hm hl hY
  refine callsIn_of_wp Try.func88 rfl trivial ?_ rfl
  simp only [Try.ntmps88,List.size_toArray,List.length_cons,List.length_nil,Nat.reduceAdd,Nat.reduceSub,Array.replicate_succ,Array.replicate_zero,List.push_toArray,List.append_toArray,List.nil_append,List.cons_append]
  gi_wp2_with ((try refine ⟨hdd _,?_⟩);first | (gi_at_call 77;refine (callsIn_wide.2 (parts_any _ _ _ _ _ _)).mono ?_;rintro e w' ⟨rfl,rfl⟩) | (refine hR.mono ?_;clear hR;rintro e W2 (⟨rfl,HJ2,c0,c1,c2,c3,c4⟩ | ⟨rfl,HJ2⟩)))
  ·
   have HJ3 := Asd.mk (hJa _ _ (.cells #[.int .i64 k,.int .i64 n,.string nm,v3,.slice a4 ks.length cap4] 38) HJ2.out.1)
   have HB4 := Asd.mk (HJ2.out.2.alloc (Nat.le_trans HB.out.size HJ2.out.2.size) (.cells #[.int .i64 k,.int .i64 n,.string nm,v3,.slice a4 ks.length cap4] 38))
   clear c0 c1 c2 c3 c4
   gi_loopw [20] (fun i wr => ∃ j : Nat,j ≤ ks.length ∧ i = .int .i64 j ∧ Asd (∃ xs : List (Nd w0),xs.map Nd.key = (d,Ty5.mk k n nm ls ks) :: walkL (wrap64 (d + 1)) (ks.take j) ∧ J (pre ++ xs) wr ∧ Below w0.heap.size W wr)) (fun i _ => ks.length - (intOf i).toNat)
   case atStart => exact ⟨0,by omega,rfl,⟨_,by simp [walkL,Nd.key],HJ3.out,HB4.out⟩⟩
   case round =>
    obtain ⟨j,hj,rfl,HX⟩ := hrel
    by_cases hlt : j < ks.length
    ·rcases H4.out with ⟨_,_,_,e⟩ | ⟨b,off,cap,e,hr⟩
     ·rw [e] at hlt
      exact absurd hlt (Nat.not_lt_zero _)
     obtain ⟨rfl,rfl⟩ : a4 = some ⟨b,off,none⟩ ∧ cap4 = cap := by simpa using e
     obtain ⟨xs,hxs,hJx,hBx⟩ := HX.out
     have hBw := HB.out.trans hBx
     obtain ⟨x0,x1,x2,x3,x4,c0,c1,c2,c3,c4',ht⟩ := hr.at hlt
     have c0 := cell_below hBw c0
     have c1 := cell_below hBw c1
     have c2 := cell_below hBw c2
     have c3 := cell_below hBw c3
     have c4' := cell_below hBw c4'
     obtain ⟨k',n',nm',a',l',cc',a'',l'',cc'',rfl,rfl,rfl,rfl,rfl⟩ := ht.form
     have hsz : szT (kAt ks j) ≤ f := by have := HZ.out;have := szT_kid (k := k) (n := n) (nm := nm) (ls := ls) hlt;omega
     have hB3 : Below w0.heap.size wr (wr.alloc (.cells #[.int .i64 k',.int .i64 n',.string nm',.slice a' l' cc',.slice a'' l'' cc''] 38)) := (Below.refl _ _).alloc hBw.size _
     have hlen : (pre ++ xs).length + (walkT (wrap64 (d + 1)) (kAt ks j)).length ≤ N := by
      have h1 := HN.out
      have h2 := congrArg List.length hxs
      have h3 := congrArg List.length (walkL_step (wrap64 (d + 1)) hlt)
      have h5 := (walkL_part (wrap64 (d + 1)) ks (j + 1)).length_le
      simp only [List.length_map,List.length_cons,List.length_append] at h2 h3 ⊢
      omega
     have hC := Asd.mk (IH.out (kAt ks j) (wrap64 (d + 1)) (.int .i64 k') (.int .i64 n') (.string nm') (.slice a' l' cc') (.slice a'' l'' cc'') (m - 1) (pre ++ xs) (wr.alloc (.cells #[.int .i64 k',.int .i64 n',.string nm',.slice a' l' cc',.slice a'' l'' cc''] 38)) hsz ht (hJa _ _ _ hJx) (hBw.trans hB3) (by have := HC.out;have := hBx.size;have := hB3.size;omega) hlen)
     have HXS := Asd.mk hxs
     have HB3 := Asd.mk hB3
     have HBX := Asd.mk hBx
     clear hxs hB3 hBx hBw hJx ht hr e HX hlen hsz
     gi_wp2_with ((try refine ⟨hdd _,?_⟩);gi_at_call 88;refine hC.out.mono ?_;clear hC;rintro e W3 (⟨rfl,ys,hk3,hJ3,hb3⟩ | ⟨rfl,q,hq,hx3⟩))
     ·have HK3 := Asd.mk hk3
      have HJ3 := Asd.mk hJ3
      have HBB := Asd.mk hb3
      clear hk3 hJ3 hb3
      go_roundw
      case rel => exact ⟨j + 1,by omega,by go_num,⟨xs ++ ys,by rw [List.map_append,HXS.out,HK3.out,walkL_step _ hlt,List.cons_append],by rw [← List.append_assoc];exact HJ3.out,HBX.out.trans (HB3.out.trans HBB.out)⟩⟩
      case measure => simp [intOf];omega
     ·go_ret
      refine .inr ⟨rfl,xs ++ q,?_,by rw [← List.append_assoc];exact hx3⟩
      rw [List.map_append,HXS.out,HK.out,List.cons_append]
      refine List.cons_prefix_cons.2 ⟨rfl,?_⟩
      refine List.IsPrefix.trans ?_ (walkL_part (wrap64 (d + 1)) ks (j + 1))
      rw [walkL_step _ hlt]
      exact (List.prefix_append_right_inj _).2 hq
    ·have : j = ks.length := by omega
     subst this
     obtain ⟨xs,hxs,hJx,hBx⟩ := HX.out
     clear HX
     gi_wp2
     go_ret
     exact .inl ⟨rfl,xs,by rw [hxs,HK.out,List.take_length],hJx,hBx⟩
  ·go_ret
   exact .inr ⟨rfl,_,by rw [HK.out];simp [Nd.key],HJ2.out⟩
def nodesW (w : World) (v0 v1 v2 v3 v4 : Value) : World :=
 ((w.alloc (.cells #[v0,v1,v2,v3,v4] 38)).alloc (.cells #[v0,v1,v2,v3,v4] 38)).alloc (.cells #[.func (.func 77) #[] #[]] 84)
theorem nodesW_size (w : World) (v0 v1 v2 v3 v4 : Value) : (nodesW w v0 v1 v2 v3 v4).heap.size = w.heap.size + 3 := by simp [nodesW]
theorem nodesW_root (w : World) (v0 v1 v2 v3 v4 : Value) : (nodesW w v0 v1 v2 v3 v4).heap[w.heap.size + 1]? = some (.cells #[v0,v1,v2,v3,v4] 38 (0,0)) := by
 unfold nodesW
 rw [Below.heap_alloc _ _ _ (by simp)]
 have := World.alloc_heap_new (w.alloc (.cells #[v0,v1,v2,v3,v4] 38)) (.cells #[v0,v1,v2,v3,v4] 38)
 rwa [World.size_alloc] at this
theorem nodesW_parts (w : World) (v0 v1 v2 v3 v4 : Value) : (nodesW w v0 v1 v2 v3 v4).heap[w.heap.size + 1 + 1]? = some (.cells #[.func (.func 77) #[] #[]] 84 (0,0)) := by
 have := World.alloc_heap_new ((w.alloc (.cells #[v0,v1,v2,v3,v4] 38)).alloc (.cells #[v0,v1,v2,v3,v4] 38)) (.cells #[.func (.func 77) #[] #[]] 84)
 rwa [World.size_alloc,World.size_alloc] at this
theorem below_nodesW {B : Nat} {w0 w : World} (h : Below B w0 w) (hB : B ≤ w.heap.size) (v0 v1 v2 v3 v4 : Value) : Below B w0 (nodesW w v0 v1 v2 v3 v4) :=
 ((h.alloc hB _).alloc (by simp;omega) _).alloc (by simp;omega) _
theorem boxed_nodesW {W : World} {B : Nat} {t : TypeId} {v : Value} (h : Boxed W B t v) (v0 v1 v2 v3 v4 : Value) : Boxed (nodesW W v0 v1 v2 v3 v4) B t v := ((h.alloc _).alloc _).alloc _
theorem tnodes_any (v0 v1 v2 v3 v4 : Value) (w : World) : Calls Try.prog 76 #[.agg #[v0,v1,v2,v3,v4],.func (.func 77) #[] #[]] w fun e w' =>
  e = .returned (.func (.func 87) #[] #[.pointer (some ⟨w.heap.size,0,none⟩),.pointer (some ⟨w.heap.size + 1,0,none⟩)]) ∧ w' = (w.alloc (.cells #[v0,v1,v2,v3,v4] 38)).alloc (.cells #[.func (.func 77) #[] #[]] 84) := by
 go_enter Try.func76,Try.ntmps76
 go_wp2
 go_ret
 refine ⟨?_,rfl⟩
 simp
theorem nodes_any (v0 v1 v2 v3 v4 : Value) (w : World) : Calls Try.prog 64 #[.agg #[v0,v1,v2,v3,v4]] w fun e w' =>
  e = .returned (.func (.func 87) #[] #[.pointer (some ⟨w.heap.size + 1,0,none⟩),.pointer (some ⟨w.heap.size + 1 + 1,0,none⟩)]) ∧ w' = nodesW w v0 v1 v2 v3 v4 := by
 go_enter Try.func64,Try.ntmps64
 go_wp2_with (go_at_call 76;refine (tnodes_any v0 v1 v2 v3 v4 _).mono ?_;rintro e w' ⟨rfl,rfl⟩)
 go_ret
 refine ⟨?_,rfl⟩
 simp
theorem nodes1_in (n l Bt Bp c : Nat) (S : Nat -> Prop) (hS : ∀ k,S k -> k < c) (w0 : World) (t : Ty5) (v0 v1 v2 v3 v4 : Value) (hT : TyIn w0 t v0 v1 v2 v3 v4) (J Jx : List (Nd w0) -> World -> Prop)
  (hJa : ∀ pre W o,J pre W -> J pre (W.alloc o))
  (hY : ∀ pre x W,J pre W -> pre.length < (walkT 1 t).length -> YieldAt Fence.wide (n - 1) Try.prog l (Nd.vals x) W fun e W' =>
   (e = .returned (.bool true) ∧ J (pre ++ [x]) W' ∧ KpS w0.heap.size S W W') ∨ (e = .returned (.bool false) ∧ Jx (pre ++ [x]) W'))
  (W : World) (hBt : ∀ i v,(#[v0,v1,v2,v3,v4] : Array Value)[i]? = some v -> W.cell? ⟨Bt,i,none⟩ = some v) (hBp : W.cell? ⟨Bp,0,none⟩ = some (.func (.func 77) #[] #[])) (h0 : J [] W) (hB : Below w0.heap.size w0 W) (hc : c ≤ W.heap.size) :
  CallsIn Fence.wide n Try.prog 87 #[.func (.yield l) #[] #[],.pointer (some ⟨Bt,0,none⟩),.pointer (some ⟨Bp,0,none⟩)] W fun e W' => (∃ v,e = .returned v) ∧
   ((∃ xs : List (Nd w0),xs.map Nd.key = walkT 1 t ∧ J xs W') ∨ (∃ pre : List (Nd w0),pre.map Nd.key <+: walkT 1 t ∧ Jx pre W')) := by
 have hdd : ∀ k : Nat,(Fence.wide.depth.isSome = true -> 1 ≤ k) := fun k h => by rw [depth_wide] at h;cases h
 have hfv : Fence.wide.fn 88 := trivial
 have hp := Asd.mk (visit_in w0 l (walkT 1 t).length c S hS J Jx hJa (fun m pre x W hj hl => yieldAt_anyDepth depth_wide m (hY pre x W hj hl)) (szT t) t 1 v0 v1 v2 v3 v4 (n - 1) [] W (Nat.le_refl _) hT h0 hB hc (by simp))
 have b0 := hBt 0 _ rfl
 have b1 := hBt 1 _ rfl
 have b2 := hBt 2 _ rfl
 have b3 := hBt 3 _ rfl
 have b4 := hBt 4 _ rfl
 clear hY hT hB h0 hBt
 refine callsIn_of_wp Try.func87 rfl trivial ?_ rfl
 simp only [Try.ntmps87,List.size_toArray,List.length_cons,List.length_nil,Nat.reduceAdd,Nat.reduceSub,Array.replicate_succ,Array.replicate_zero,List.push_toArray,List.append_toArray,List.nil_append,List.cons_append]
 gi_wp2_with ((try refine ⟨hdd _,?_⟩);gi_at_call 88;refine hp.out.mono ?_;clear hp;rintro e W1 (⟨rfl,xs,hk,hJ1,_⟩ | ⟨rfl,q,hq,hx⟩))
 ·go_end0
  exact ⟨⟨_,rfl⟩,.inl ⟨xs,hk,by simpa using hJ1⟩⟩
 ·go_end0
  exact ⟨⟨_,rfl⟩,.inr ⟨q,hq,by simpa using hx⟩⟩
theorem nodes_stops (n Bt Bp c : Nat) (S : Nat -> Prop) (hS : ∀ k,S k -> k < c) (w0 w : World) (t : Ty5) (v0 v1 v2 v3 v4 : Value) (hT : TyIn w0 t v0 v1 v2 v3 v4) (hB : Below w0.heap.size w0 w) (hc : c ≤ w.heap.size)
  (hBt : w.heap[Bt]? = some (.cells #[v0,v1,v2,v3,v4] 38 (0,0))) (hBp : w.heap[Bp]? = some (.cells #[.func (.func 77) #[] #[]] 84 (0,0))) :
  SeqStopsK Fence.wide n Try.prog 87 #[.pointer (some ⟨Bt,0,none⟩),.pointer (some ⟨Bp,0,none⟩)] (Nd.vals (w0 := w0)) (KpS w0.heap.size S) (fun xs => xs.map Nd.key = walkT 1 t) (fun pre => pre.map Nd.key <+: walkT 1 t) (walkT 1 t).length w :=
 fun l J Jx W hW hJ _ hY h0 =>
  nodes1_in n l Bt Bp c S hS w0 t v0 v1 v2 v3 v4 hT J Jx (fun pre A o h => hJ pre A _ none h (World.grownBy_alloc A o none) (fun r e => by cases e)) hY W
   (fun i v hi => box_cell ((hW.block Bt (Array.getElem?_eq_some_iff.1 hBt).1).trans hBt) hi) (box_cell ((hW.block Bp (Array.getElem?_eq_some_iff.1 hBp).1).trans hBp) rfl) h0 (hB.trans (hW.mono hB.size)) (Nat.le_trans hc hW.size)
attribute [local go_sem] Oper.semAt_some
mutual
theorem walk_len (d : Int) : ∀ t : Ty5,(walkT d t).length = nodesT t
 | .mk k n nm ls ks => by
  simp only [walkT,nodesT,List.length_cons]
  rw [walkL_len (wrap64 (d + 1)) ks]
  omega
theorem walkL_len (d : Int) : ∀ ks : List Ty5,(walkL d ks).length = nodesL ks
 | [] => rfl
 | t :: r => by
  simp only [walkL,nodesL,List.length_append]
  rw [walk_len d t,walkL_len d r]
end
theorem wrap_small {a : Int} (h0 : 0 ≤ a) (h1 : a ≤ 1000001) : wrap64 a = a := by unfold wrap64;omega
theorem len_keys {w0 : World} {xs : List (Nd w0)} {t : Ty5} {d : Int} (h : xs.map Nd.key = walkT d t) : xs.length = nodesT t := by
 have := congrArg List.length h
 rw [List.length_map,walk_len] at this
 exact this
theorem pnodes_any (t : Ty5) (v0 v1 v2 v3 v4 : Value) (w : World) (hT : TyIn w t v0 v1 v2 v3 v4) (hn : nodesT t ≤ 1000000) :
  Calls Try.prog 35 #[.agg #[v0,v1,v2,v3,v4]] w fun e w' => e = .returned (.int .i64 (nodesT t)) ∧ Below w.heap.size w w' := by
 refine (callsIn_wide (n := 6)).1 ?_
 have hf1 : Fence.wide.fn 64 := trivial
 have HT := Asd.mk hT
 have HN := Asd.mk hn
 clear hT hn
 refine callsIn_of_wp_marks Try.func35 rfl trivial ?_ rfl
 simp only [Try.ntmps35,List.size_toArray,List.length_cons,List.length_nil,Nat.reduceAdd,Nat.reduceSub,Array.replicate_succ,Array.replicate_zero,List.push_toArray,List.append_toArray,List.nil_append,List.cons_append]
 gi_wp2_with (gi_at_call 64;refine (callsIn_wide.2 (nodes_any v0 v1 v2 v3 v4 _)).mono ?_;rintro e w' ⟨rfl,rfl⟩)
 have bS := boxed_nodesW (Boxed.new (w.alloc (.cells #[v0,v1,v2,v3,v4] 38)) 3 (.int .i64 0)) v0 v1 v2 v3 v4
 have bA := nodesW_root ((w.alloc (.cells #[v0,v1,v2,v3,v4] 38)).alloc (.cells #[.int .i64 0] 3)) v0 v1 v2 v3 v4
 have bP := nodesW_parts ((w.alloc (.cells #[v0,v1,v2,v3,v4] 38)).alloc (.cells #[.int .i64 0] 3)) v0 v1 v2 v3 v4
 have hB0 : Below w.heap.size w (nodesW ((w.alloc (.cells #[v0,v1,v2,v3,v4] 38)).alloc (.cells #[.int .i64 0] 3)) v0 v1 v2 v3 v4) := below_nodesW (((Below.refl _ w).alloc (Nat.le_refl _) _).alloc (by simp) _) (by simp only [World.size_alloc] <;> omega) v0 v1 v2 v3 v4
 have hsz : (nodesW ((w.alloc (.cells #[v0,v1,v2,v3,v4] 38)).alloc (.cells #[.int .i64 0] 3)) v0 v1 v2 v3 v4).heap.size = w.heap.size + 5 := by rw [nodesW_size];simp only [World.size_alloc] <;> omega
 simp only [World.size_alloc] at bS bA bP
 obtain ⟨W0,hW0⟩ : ∃ W0,nodesW ((w.alloc (.cells #[v0,v1,v2,v3,v4] 38)).alloc (.cells #[.int .i64 0] 3)) v0 v1 v2 v3 v4 = W0 := ⟨_,rfl⟩
 rw [hW0] at bS bA bP hB0 hsz ⊢
 clear hW0
 refine wpIn_rangeFunc_ownH rfl (by omega) (gf := 87) (lb := #[.pointer (some ⟨w.heap.size + 1 + 1 + 1,0,none⟩),.pointer (some ⟨w.heap.size + 1 + 1 + 1 + 1,0,none⟩)]) rfl trivial (enters_of Try.func87 (by kernel_rfl) rfl)
  (nodes_stops 5 (w.heap.size + 1 + 1 + 1) (w.heap.size + 1 + 1 + 1 + 1) (w.heap.size + 5) (fun k => k = w.heap.size + 1) (fun k h => by omega) w W0 t v0 v1 v2 v3 v4 HT.out hB0 (by omega) bA bP) kpS_t (kpS_b (by omega)) (Below.refl _ _) (fun _ => rfl)
  (fun pre W => Boxed W (w.heap.size + 1) 3 (.int .i64 (wrap64 (pre.length : Nat))) ∧ Below w.heap.size w W)
  (fun _ _ _ => False)
  (OwnFrom.and (Own.from (boxed_own _ _ _) _) (ownFrom_below (Nat.le_refl _) (by omega)))
  (fun _ _ _ _ _ hs _ _ => hs)
  ⟨by simpa [wrap64] using bS,hB0⟩
  (fun x a' _ => a' = { tmps := #[.agg #[v0,v1,v2,v3,v4],.pointer (some ⟨w.heap.size,0,none⟩),.int .i64 0,.pointer (some ⟨w.heap.size + 1,0,none⟩),.agg #[v0,v1,v2,v3,v4],.func (.func 87) #[] #[.pointer (some ⟨w.heap.size + 1 + 1 + 1,0,none⟩),.pointer (some ⟨w.heap.size + 1 + 1 + 1 + 1,0,none⟩)],.int .i64 x.d,.agg #[x.v0,x.v1,x.v2,x.v3,x.v4],undef,undef,undef],defers := [] })
  (fun _ _ _ _ _ _ hs _ _ => hs)
  ?assign ?body ?done ?stop
 case assign =>
  intro l pre x W K hi hK
  simp only [Nd.vals,zip2]
  gi_wp2
  exact hK _ _ (KeepsFrom.refl _ _) (KpS.refl _ _ _) hi rfl
 case body =>
  rintro l pre x a' W hl hr ⟨bS1,hB1⟩ rfl hlt
  have cS := bS1.cell
  have fS := bS1.frozen
  gi_wp2
  refine ⟨(KeepsOthers.setCell _ _ _).from _,KpS.store (S := fun k => k = w.heap.size + 1) W rfl (by omega) _,?_,hB1.setCell (p := ⟨w.heap.size + 1,0,none⟩) (by simp) _⟩
  have e : wrap64 (wrap64 (pre.length : Nat) + 1) = wrap64 ((pre ++ [x]).length : Nat) := by
   simp only [List.length_append,List.length_cons,List.length_nil]
   unfold wrap64
   omega
  rw [← e]
  exact bS1.set _
 case done =>
  rintro D xs W hD hxs ⟨bS1,hB1⟩ hK
  have cS := bS1.cell
  gi_wp2
  refine ⟨by simp,.inl ⟨_,_,rfl,run_takeDeferred hK,?_⟩⟩
  exact ⟨_,results_tmp rfl _ _ _,by rw [len_keys hxs,wrap_small (by omega) (by have := HN.out;omega)];rfl,hB1.trans (belowK_b (w := w) (Nat.le_refl _) W D _ _ (by omega) hK rfl rfl)⟩
 case stop =>
  rintro D c pre W _ _ h _
  exact h.elim
section
variable {α : Type}
theorem rise_unique {R : α -> α -> Prop} (hR : ∀ a b,R a b -> ¬ R b a) : ∀ (l m : List α),l.Pairwise R -> m.Pairwise R -> (∀ x,x ∈ l ↔ x ∈ m) -> l = m
 | [],[],_,_,_ => rfl
 | [],b :: m,_,_,h => by have := (h b).2 (List.mem_cons_self ..);simp at this
 | a :: l,[],_,_,h => by have := (h a).1 (List.mem_cons_self ..);simp at this
 | a :: l,b :: m,hl,hm,h => by
  rw [List.pairwise_cons] at hl hm
  have hab : a = b := by
   rcases List.mem_cons.1 ((h a).1 (List.mem_cons_self ..)) with e | ha
   ·exact e
   ·rcases List.mem_cons.1 ((h b).2 (List.mem_cons_self ..)) with e | hb
    ·exact e.symm
    ·exact absurd (hm.1 a ha) (hR _ _ (hl.1 b hb))
  subst hab
  have irr : ∀ x,¬ R x x := fun x hx => hR x x hx hx
  congr 1
  refine rise_unique hR l m hl.2 hm.2 fun x => ⟨fun hx => ?_,fun hx => ?_⟩
  ·rcases List.mem_cons.1 ((h x).1 (List.mem_cons_of_mem _ hx)) with e | hx'
   ·subst e
    exact absurd (hl.1 x hx) (irr x)
   ·exact hx'
  ·rcases List.mem_cons.1 ((h x).2 (List.mem_cons_of_mem _ hx)) with e | hx'
   ·subst e
    exact absurd (hm.1 x hx) (irr x)
   ·exact hx'
end
open Go.RowKit Go.Sort
def VarsIs (N L : List ByteArray) : Prop := L.Pairwise (fun a b => ltS a b = true) ∧ ∀ s,s ∈ L ↔ s ∈ N
theorem varsIs_unique {N L M : List ByteArray} (h : VarsIs N L) (g : VarsIs N M) : L = M :=
 rise_unique (R := fun a b => ltS a b = true) (fun a b h1 h2 => by
  have := less_trans _ _ _ h1 h2
  rw [less_irr] at this
  cases this) L M h.1 g.1 (fun s => (h.2 s).trans (g.2 s).symm)
theorem le_not (x y : List UInt8) : decide (x ≤ y) = !Op.bytesLess y x := by
 rw [bytesLess_eq]
 by_cases h : y < x
 ·have : ¬ x ≤ y := fun hle => hle h
  simp [h,this]
 ·have : x ≤ y := h
  simp [h,this]
theorem get_sorted {zs : List (List UInt8)} (h : zs.Pairwise (fun x y => Op.bytesLess y x = false)) {i j : Nat} (hij : i < j) (hj : j < zs.length) : Op.bytesLess zs[j] zs[i] = false :=
 (List.pairwise_iff_getElem.1 h) i j (by omega) hj hij
theorem compact_rises {zs : List (List UInt8)} (h : zs.Pairwise (fun x y => Op.bytesLess y x = false)) : (Lib.compact zs).Pairwise (fun x y => Op.bytesLess x y = true) := by
 unfold Lib.compact Lib.compactUpTo
 rw [List.pairwise_map]
 have hr : ((List.range zs.length).filter (Lib.keeps zs.toArray)).Pairwise (· < ·) := List.Pairwise.filter _ List.pairwise_lt_range
 refine hr.imp_of_mem ?_
 intro i j hi hj hij
 have hj1 := List.mem_filter.1 hj
 have hjl : j < zs.length := List.mem_range.1 hj1.1
 have hk := hj1.2
 simp only [Lib.keeps,decide_eq_true_eq] at hk
 rcases hk with hk | hk
 ·omega
 have gt : ∀ q (hq : q < zs.length),zs.toArray[q]! = zs[q] := fun q hq => by
  rw [getElem!_pos _ _ (by simpa using hq)]
  simp
 rw [gt j hjl,gt (j - 1) (by omega)] at hk
 rw [gt i (by omega),gt j hjl]
 have h1 := get_sorted h (i := j - 1) (j := j) (by omega) hjl
 have h2 : Op.bytesLess zs[j - 1] zs[j] = true := by
  rcases less_total zs[j - 1] zs[j] with k | k | k
  ·exact k
  ·exact absurd k.symm hk
  ·rw [k] at h1;cases h1
 by_cases e : i = j - 1
 ·subst e
  exact h2
 ·have h3 := get_sorted h (i := i) (j := j - 1) (by omega) (by omega)
  rcases less_total zs[i] zs[j - 1] with k | k | k
  ·exact less_trans _ _ _ k h2
  ·rw [k];exact h2
  ·rw [k] at h3;cases h3
theorem compact_mem (zs : List (List UInt8)) (s : List UInt8) : s ∈ Lib.compact zs ↔ s ∈ zs := by
 unfold Lib.compact Lib.compactUpTo
 have gt : ∀ q (hq : q < zs.length),zs.toArray[q]! = zs[q] := fun q hq => by
  rw [getElem!_pos _ _ (by simpa using hq)]
  simp
 constructor
 ·intro h
  obtain ⟨j,hj,rfl⟩ := List.mem_map.1 h
  have hjl : j < zs.length := List.mem_range.1 (List.mem_filter.1 hj).1
  rw [gt j hjl]
  exact List.getElem_mem hjl
 ·intro h
  obtain ⟨j,hj,rfl⟩ := List.getElem_of_mem h
  clear h
  induction j with
  | zero => exact List.mem_map.2 ⟨0,List.mem_filter.2 ⟨List.mem_range.2 hj,by simp [Lib.keeps]⟩,gt 0 hj⟩
  | succ j ih =>
   by_cases hk : zs[j + 1] = zs[j]
   ·rw [hk]
    exact ih (by omega)
   ·exact List.mem_map.2 ⟨j + 1,List.mem_filter.2 ⟨List.mem_range.2 hj,by
     simp only [Lib.keeps,decide_eq_true_eq]
     right
     rw [gt (j + 1) hj,Nat.add_sub_cancel,gt j (by omega)]
     exact hk⟩,gt (j + 1) hj⟩
def toB (l : List UInt8) : ByteArray := ⟨l.toArray⟩
theorem toB_list (l : List UInt8) : (toB l).toList = l := by
 rw [ByteArray.toList_eq]
 try rfl
theorem toB_data (s : ByteArray) : toB s.data.toList = s := by
 unfold toB
 rw [Array.toArray_toList]
theorem vars_sorted (N : List ByteArray) : VarsIs N ((Lib.compact ((N.map fun s => s.data.toList).mergeSort fun x y => decide (x ≤ y))).map toB) := by
 have hs : ((N.map fun s => s.data.toList).mergeSort fun x y => decide (x ≤ y)).Pairwise (fun x y => Op.bytesLess y x = false) := by
  have h := List.pairwise_mergeSort (le := fun x y : List UInt8 => decide (x ≤ y)) (fun a b c h1 h2 => by
   rw [le_not] at *
   rcases less_total c a with k | k | k
   ·rcases less_total a b with q | q | q
    ·rw [less_trans _ _ _ k q] at h2;cases h2
    ·rw [← q,k] at h2;cases h2
    ·rw [q] at h1;cases h1
   ·rw [k,less_irr];rfl
   ·rcases h : Op.bytesLess c a with _ | _
    ·rfl
    ·have := less_trans _ _ _ h k
     rw [less_irr] at this
     cases this) (fun a b => by
   rw [le_not,le_not]
   rcases h : Op.bytesLess b a with _ | _
   ·rfl
   ·rcases h' : Op.bytesLess a b with _ | _
    ·rfl
    ·have := less_trans _ _ _ h h'
     rw [less_irr] at this
     cases this) (N.map fun s => s.data.toList)
  refine h.imp ?_
  intro a b hab
  rw [le_not] at hab
  simpa using hab
 refine ⟨?_,fun s => ?_⟩
 ·rw [List.pairwise_map]
  refine (compact_rises hs).imp ?_
  intro a b hab
  unfold ltS
  rw [toB_list,toB_list]
  exact hab
 ·constructor
  ·intro h
   obtain ⟨l,hl,rfl⟩ := List.mem_map.1 h
   rw [compact_mem] at hl
   have hl := (List.mergeSort_perm _ _).subset hl
   obtain ⟨q,hq,rfl⟩ := List.mem_map.1 hl
   rw [toB_data]
   exact hq
  ·intro h
   refine List.mem_map.2 ⟨s.data.toList,?_,toB_data s⟩
   rw [compact_mem]
   exact (List.mergeSort_perm _ _).symm.subset (List.mem_map.2 ⟨s,h,rfl⟩)
open Go.RowKit Go.Deep Go.Sort
def putStep (s : ByteArray) (st : List ByteArray × Bool) (x : ByteArray) : List ByteArray × Bool :=
 if st.2 = true ∨ ltS x s = true then (st.1 ++ [x],st.2) else if (x.toList == s.toList) = true then (st.1 ++ [x],true) else (st.1 ++ [s] ++ [x],true)
def putSt (s : ByteArray) (l : List ByteArray) : List ByteArray × Bool := l.foldl (putStep s) ([],false)
theorem putSt_snoc (s : ByteArray) (l : List ByteArray) (x : ByteArray) : putSt s (l ++ [x]) = putStep s (putSt s l) x := by simp [putSt]
def putL (l : List ByteArray) (s : ByteArray) : List ByteArray := if (putSt s l).2 = true then (putSt s l).1 else (putSt s l).1 ++ [s]
def putR (s : ByteArray) : List ByteArray -> List ByteArray
 | [] => [s]
 | x :: r => if ltS x s = true then x :: putR s r else if (x.toList == s.toList) = true then x :: r else s :: x :: r
theorem put_done (s : ByteArray) : ∀ (l a : List ByteArray),l.foldl (putStep s) (a,true) = (a ++ l,true)
 | [],a => by simp
 | x :: r,a => by
  rw [List.foldl_cons]
  have : putStep s (a,true) x = (a ++ [x],true) := by simp [putStep]
  rw [this,put_done s r,List.append_assoc]
  try rfl
theorem put_fold (s : ByteArray) : ∀ (l a : List ByteArray),(if (l.foldl (putStep s) (a,false)).2 = true then (l.foldl (putStep s) (a,false)).1 else (l.foldl (putStep s) (a,false)).1 ++ [s]) = a ++ putR s l
 | [],a => by simp [putR]
 | x :: r,a => by
  rw [List.foldl_cons]
  unfold putR
  rcases h : ltS x s with _ | _
  ·rcases h' : (x.toList == s.toList) with _ | _
   ·have : putStep s (a,false) x = (a ++ [s] ++ [x],true) := by simp [putStep,h,h']
    rw [this,put_done]
    simp
   ·have : putStep s (a,false) x = (a ++ [x],true) := by simp [putStep,h,h']
    rw [this,put_done]
    simp
  ·have : putStep s (a,false) x = (a ++ [x],false) := by simp [putStep,h]
   rw [this,put_fold s r (a ++ [x])]
   simp
theorem putL_eq (l : List ByteArray) (s : ByteArray) : putL l s = putR s l := by
 have := put_fold s l []
 rwa [List.nil_append] at this
theorem putR_mem (s z : ByteArray) : ∀ l : List ByteArray,z ∈ putR s l ↔ z = s ∨ z ∈ l
 | [] => by simp [putR]
 | x :: r => by
  unfold putR
  rcases h : ltS x s with _ | _
  ·rcases h' : (x.toList == s.toList) with _ | _
   ·simp
   ·have e : x = s := eqS_iff.1 h'
    subst e
    simp
  ·simp only [if_true,List.mem_cons,putR_mem s z r]
   constructor
   ·rintro (h | h | h) <;> simp [h]
   ·rintro (h | h | h) <;> simp [h]
theorem putR_len (s : ByteArray) : ∀ l : List ByteArray,(putR s l).length ≤ l.length + 1
 | [] => by simp [putR]
 | x :: r => by
  have := putR_len s r
  unfold putR
  split
  ·simp;omega
  ·split <;> simp
theorem putR_rises (s : ByteArray) : ∀ l : List ByteArray,l.Pairwise (fun a b => ltS a b = true) -> (putR s l).Pairwise (fun a b => ltS a b = true)
 | [],_ => by simp [putR]
 | x :: r,hl => by
  rw [List.pairwise_cons] at hl
  unfold putR
  rcases h : ltS x s with _ | _
  ·rcases h' : (x.toList == s.toList) with _ | _
   ·have hs : ltS s x = true := by
     unfold ltS at *
     rcases less_total x.toList s.toList with k | k | k
     ·rw [k] at h;cases h
     ·rw [k] at h';simp at h'
     ·exact k
    simp only [Bool.false_eq_true,if_false]
    refine List.pairwise_cons.2 ⟨fun z hz => ?_,List.pairwise_cons.2 hl⟩
    rcases List.mem_cons.1 hz with rfl | hz
    ·exact hs
    ·exact less_trans _ _ _ hs (hl.1 z hz)
   ·simp only [Bool.false_eq_true,if_false,if_true]
    exact List.pairwise_cons.2 hl
  ·simp only [if_true]
   refine List.pairwise_cons.2 ⟨fun z hz => ?_,putR_rises s r hl.2⟩
   rcases (putR_mem s z r).1 hz with rfl | hz
   ·exact h
   ·exact hl.1 z hz
theorem varsIs_put {N L : List ByteArray} (h : VarsIs N L) (s : ByteArray) : VarsIs (N ++ [s]) (putL L s) := by
 rw [putL_eq]
 refine ⟨putR_rises s L h.1,fun z => ?_⟩
 rw [putR_mem,h.2,List.mem_append,List.mem_singleton,or_comm]
open Go.RowKit Pv
theorem putv_run (l : List ByteArray) (hl : l.length ≤ 140737488355) (s : ByteArray) (Q : D -> H -> Prop) (hQ : ∀ d h',Wk d (.sl none 1 ((putL l s).map strD)) -> Q d h') : wfun TT 43 [.sl none 1 (l.map strD),.raw (.string s)] [] Q := by
 have hQ : ∀ tag h',Q (.sl tag 1 ((putL l s).map strD)) h' := fun tag h' => hQ _ h' (untag_any _ _ _)
 have hBl : (l.map strD).length = l.length := by simp
 have hp := strs_pure l
 have hBi := fun k => pure_idbL k _ hp
 have hat := fun i => strs_at (ls := l) (i := i)
 generalize l.map strD = BS at hBi hBl hat hp ⊢
 cbv
 (repeat'((first|(apply zS;kernel_rfl)|(apply zD;decide +kernel)|(apply zE;decide +kernel)|(apply zF;decide +kernel)|(apply zL;decide +kernel)|(apply zM;decide +kernel)|(apply zN;intros)|(apply zO;intros)|(apply zT;omega)|(apply zU;omega)|(apply zP;omega;intros)|(apply zQ;omega;intros)|apply zR);cbv))
 refine LoopK.log 5 9 1 rfl ?_
 refine LoopK.put (X := Int × List D × Nat × Bool) (fun x => [(5,.sl (some 0) 1 x.2.1),(6,.raw (.bool x.2.2.2)),(7,.raw (.int .i64 x.1))]) (fun x => [(0,.log 9 1 x.2.2.1)]) (fun x => l.length - x.1.toNat)
  (fun x => 0 ≤ x.1 ∧ x.1.toNat ≤ l.length ∧ x.2.1 = (putSt s (l.take x.1.toNat)).1.map strD ∧ x.2.2.1 = x.2.1.length ∧ x.2.2.2 = (putSt s (l.take x.1.toNat)).2 ∧ x.2.1.length ≤ 2 * x.1.toNat) (0,[],0,false) ⟨by simp,by simp,rfl,rfl,rfl,by simp⟩ rfl rfl ?_
 rintro ⟨i,L,nl,dn⟩ N ⟨h0,hi,hL,hnl,hdn,hlen⟩ hN
 simp only at h0 hi hL hnl hdn hlen hN ⊢
 cbv
 (repeat'((first|(apply zS;kernel_rfl)|(apply zD;decide +kernel)|(apply zE;decide +kernel)|(apply zF;decide +kernel)|(apply zL;decide +kernel)|(apply zM;decide +kernel)|(apply zN;intros)|(apply zO;intros)|(apply zT;omega)|(apply zU;omega)|(apply zP;omega;intros)|(apply zQ;omega;intros)|apply zR);cbv))
 refine BinK.lss ?_ ?_ <;> intro hlt <;> cbv <;> (repeat'((first|(apply zS;kernel_rfl)|(apply zD;decide +kernel)|(apply zE;decide +kernel)|(apply zF;decide +kernel)|(apply zL;decide +kernel)|(apply zM;decide +kernel)|(apply zN;intros)|(apply zO;intros)|(apply zT;omega)|(apply zU;omega)|(apply zP;omega;intros)|(apply zQ;omega;intros)|apply zR);cbv))
 ·obtain ⟨x,hx,hB⟩ := hat i.toNat (by omega)
  have hstep : ∀ r : Int,r = i + 1 -> putSt s (l.take r.toNat) = putStep s (putSt s (l.take i.toNat)) x := fun r hr => by
   obtain ⟨h1,h2⟩ := List.getElem?_eq_some_iff.1 hx
   rw [show r.toNat = i.toNat + 1 by omega,List.take_succ_eq_append_getElem h1,h2,putSt_snoc]
  rcases hP : putSt s (l.take i.toNat) with ⟨P,pd⟩
  rw [hP] at hL hdn hstep
  simp only at hL hdn
  subst hdn
  clear hat hQ hP
  have hLl : L.length ≤ 2 * i.toNat := hlen
  cases dn with
  | true =>
   have hps : putStep s (P,true) x = (P ++ [x],true) := by simp [putStep]
   cbv
   (repeat'((first|(apply zS;kernel_rfl)|(apply zD;decide +kernel)|(apply zE;decide +kernel)|(apply zF;decide +kernel)|(apply zL;decide +kernel)|(apply zM;decide +kernel)|(apply zN;intros)|(apply zO;intros)|(apply zT;omega)|(apply zU;omega)|(apply zP;omega;intros)|(apply zQ;omega;intros)|apply zR);cbv))
   refine IdxK.intro h0 hB ?_
   cbv
   (repeat'((first|(apply zS;kernel_rfl)|(apply zD;decide +kernel)|(apply zE;decide +kernel)|(apply zF;decide +kernel)|(apply zL;decide +kernel)|(apply zM;decide +kernel)|(apply zN;intros)|(apply zO;intros)|(apply zT;omega)|(apply zU;omega)|(apply zP;omega;intros)|(apply zQ;omega;intros)|apply zR);cbv))
   refine AppK.sl el_strs el_strs rfl hnl (by simp only [List.length_cons,List.length_nil,List.length_append];omega) ?_
   intro L9 n9 hL9 hn9
   cbv
   (repeat'((first|(apply zS;kernel_rfl)|(apply zD;decide +kernel)|(apply zE;decide +kernel)|(apply zF;decide +kernel)|(apply zL;decide +kernel)|(apply zM;decide +kernel)|(apply zN;intros)|(apply zO;intros)|(apply zT;omega)|(apply zU;omega)|(apply zP;omega;intros)|(apply zQ;omega;intros)|apply zR);cbv))
   rename_i r hr
   have hs9 := hstep r hr
   rw [hps] at hs9
   refine RoundK.forget (r,L9,n9,true) ⟨by omega,by omega,by rw [hs9];simp [hL9,hL,strD],hn9,by rw [hs9],by rw [hL9];simp only [List.length_cons,List.length_nil,List.length_append] at *;omega⟩ (by omega) rfl rfl ?_ ?_
   ·have hi9 : ∀ k,idbL k L9 = true := fun k => pure_idbL k _ (by rw [show L9 = (putSt s (l.take r.toNat)).1.map strD by rw [hs9];simp [hL9,hL,strD]];exact strs_pure _)
    simp [idbL,idb,hBi,hi9]
   ·simp [cellIdb]
  | false =>
   cbv
   (repeat'((first|(apply zS;kernel_rfl)|(apply zD;decide +kernel)|(apply zE;decide +kernel)|(apply zF;decide +kernel)|(apply zL;decide +kernel)|(apply zM;decide +kernel)|(apply zN;intros)|(apply zO;intros)|(apply zT;omega)|(apply zU;omega)|(apply zP;omega;intros)|(apply zQ;omega;intros)|apply zR);cbv))
   refine IdxK.intro h0 hB ?_
   cbv
   (repeat'((first|(apply zS;kernel_rfl)|(apply zD;decide +kernel)|(apply zE;decide +kernel)|(apply zF;decide +kernel)|(apply zL;decide +kernel)|(apply zM;decide +kernel)|(apply zN;intros)|(apply zO;intros)|(apply zT;omega)|(apply zU;omega)|(apply zP;omega;intros)|(apply zQ;omega;intros)|apply zR);cbv))
   refine BinK.sgeq ?_ ?_ <;> intro hge <;> cbv <;> (repeat'((first|(apply zS;kernel_rfl)|(apply zD;decide +kernel)|(apply zE;decide +kernel)|(apply zF;decide +kernel)|(apply zL;decide +kernel)|(apply zM;decide +kernel)|(apply zN;intros)|(apply zO;intros)|(apply zT;omega)|(apply zU;omega)|(apply zP;omega;intros)|(apply zQ;omega;intros)|apply zR);cbv))
   ·refine IdxK.intro h0 hB ?_
    cbv
    (repeat'((first|(apply zS;kernel_rfl)|(apply zD;decide +kernel)|(apply zE;decide +kernel)|(apply zF;decide +kernel)|(apply zL;decide +kernel)|(apply zM;decide +kernel)|(apply zN;intros)|(apply zO;intros)|(apply zT;omega)|(apply zU;omega)|(apply zP;omega;intros)|(apply zQ;omega;intros)|apply zR);cbv))
    refine BinK.sgtr ?_ ?_
    ·intro _ hne
     have hps : putStep s (P,false) x = (P ++ [s] ++ [x],true) := by
      have hne : ¬ (x.toList == s.toList) = true := fun h => hne (eqS_iff.1 h)
      have hge : ltS x s = false := hge
      simp [putStep,hge,hne]
     cbv
     (repeat'((first|(apply zS;kernel_rfl)|(apply zD;decide +kernel)|(apply zE;decide +kernel)|(apply zF;decide +kernel)|(apply zL;decide +kernel)|(apply zM;decide +kernel)|(apply zN;intros)|(apply zO;intros)|(apply zT;omega)|(apply zU;omega)|(apply zP;omega;intros)|(apply zQ;omega;intros)|apply zR);cbv))
     refine AppK.sl el_strs el_strs rfl hnl (by simp only [List.length_cons,List.length_nil,List.length_append];omega) ?_
     intro L8 n8 hL8 hn8
     have hq8 : L8.length = L.length + 1 := by rw [hL8];simp
     cbv
     (repeat'((first|(apply zS;kernel_rfl)|(apply zD;decide +kernel)|(apply zE;decide +kernel)|(apply zF;decide +kernel)|(apply zL;decide +kernel)|(apply zM;decide +kernel)|(apply zN;intros)|(apply zO;intros)|(apply zT;omega)|(apply zU;omega)|(apply zP;omega;intros)|(apply zQ;omega;intros)|apply zR);cbv))
     refine IdxK.intro h0 hB ?_
     cbv
     (repeat'((first|(apply zS;kernel_rfl)|(apply zD;decide +kernel)|(apply zE;decide +kernel)|(apply zF;decide +kernel)|(apply zL;decide +kernel)|(apply zM;decide +kernel)|(apply zN;intros)|(apply zO;intros)|(apply zT;omega)|(apply zU;omega)|(apply zP;omega;intros)|(apply zQ;omega;intros)|apply zR);cbv))
     refine AppK.sl el_strs el_strs rfl hn8 (by simp only [List.length_cons,List.length_nil,List.length_append];omega) ?_
     intro L9 n9 hL9 hn9
     cbv
     (repeat'((first|(apply zS;kernel_rfl)|(apply zD;decide +kernel)|(apply zE;decide +kernel)|(apply zF;decide +kernel)|(apply zL;decide +kernel)|(apply zM;decide +kernel)|(apply zN;intros)|(apply zO;intros)|(apply zT;omega)|(apply zU;omega)|(apply zP;omega;intros)|(apply zQ;omega;intros)|apply zR);cbv))
     rename_i r hr
     have hs9 := hstep r hr
     rw [hps] at hs9
     refine RoundK.forget (r,L9,n9,true) ⟨by omega,by omega,by rw [hs9];simp [hL9,hL8,hL,strD],hn9,by rw [hs9],by rw [hL9];simp only [List.length_cons,List.length_nil,List.length_append] at *;omega⟩ (by omega) rfl rfl ?_ ?_
     ·have hi9 : ∀ k,idbL k L9 = true := fun k => pure_idbL k _ (by rw [show L9 = (putSt s (l.take r.toNat)).1.map strD by rw [hs9];simp [hL9,hL8,hL,strD]];exact strs_pure _)
      simp [idbL,idb,hBi,hi9]
     ·simp [cellIdb]
    ·intro hor
     have hxs : x = s := hor.resolve_left (by rw [hge];simp)
     have hps : putStep s (P,false) x = (P ++ [x],true) := by
      have he : (x.toList == s.toList) = true := eqS_iff.2 hxs
      have hge : ltS x s = false := hge
      simp [putStep,hge,he]
     cbv
     (repeat'((first|(apply zS;kernel_rfl)|(apply zD;decide +kernel)|(apply zE;decide +kernel)|(apply zF;decide +kernel)|(apply zL;decide +kernel)|(apply zM;decide +kernel)|(apply zN;intros)|(apply zO;intros)|(apply zT;omega)|(apply zU;omega)|(apply zP;omega;intros)|(apply zQ;omega;intros)|apply zR);cbv))
     refine IdxK.intro h0 hB ?_
     cbv
     (repeat'((first|(apply zS;kernel_rfl)|(apply zD;decide +kernel)|(apply zE;decide +kernel)|(apply zF;decide +kernel)|(apply zL;decide +kernel)|(apply zM;decide +kernel)|(apply zN;intros)|(apply zO;intros)|(apply zT;omega)|(apply zU;omega)|(apply zP;omega;intros)|(apply zQ;omega;intros)|apply zR);cbv))
     refine AppK.sl el_strs el_strs rfl hnl (by simp only [List.length_cons,List.length_nil,List.length_append];omega) ?_
     intro L9 n9 hL9 hn9
     cbv
     (repeat'((first|(apply zS;kernel_rfl)|(apply zD;decide +kernel)|(apply zE;decide +kernel)|(apply zF;decide +kernel)|(apply zL;decide +kernel)|(apply zM;decide +kernel)|(apply zN;intros)|(apply zO;intros)|(apply zT;omega)|(apply zU;omega)|(apply zP;omega;intros)|(apply zQ;omega;intros)|apply zR);cbv))
     rename_i r hr
     have hs9 := hstep r hr
     rw [hps] at hs9
     refine RoundK.forget (r,L9,n9,true) ⟨by omega,by omega,by rw [hs9];simp [hL9,hL,strD],hn9,by rw [hs9],by rw [hL9];simp only [List.length_cons,List.length_nil,List.length_append] at *;omega⟩ (by omega) rfl rfl ?_ ?_
     ·have hi9 : ∀ k,idbL k L9 = true := fun k => pure_idbL k _ (by rw [show L9 = (putSt s (l.take r.toNat)).1.map strD by rw [hs9];simp [hL9,hL,strD]];exact strs_pure _)
      simp [idbL,idb,hBi,hi9]
     ·simp [cellIdb]
   ·have hps : putStep s (P,false) x = (P ++ [x],false) := by
     have hge : ltS x s = true := hge
     simp [putStep,hge]
    refine IdxK.intro h0 hB ?_
    cbv
    (repeat'((first|(apply zS;kernel_rfl)|(apply zD;decide +kernel)|(apply zE;decide +kernel)|(apply zF;decide +kernel)|(apply zL;decide +kernel)|(apply zM;decide +kernel)|(apply zN;intros)|(apply zO;intros)|(apply zT;omega)|(apply zU;omega)|(apply zP;omega;intros)|(apply zQ;omega;intros)|apply zR);cbv))
    refine AppK.sl el_strs el_strs rfl hnl (by simp only [List.length_cons,List.length_nil,List.length_append];omega) ?_
    intro L9 n9 hL9 hn9
    cbv
    (repeat'((first|(apply zS;kernel_rfl)|(apply zD;decide +kernel)|(apply zE;decide +kernel)|(apply zF;decide +kernel)|(apply zL;decide +kernel)|(apply zM;decide +kernel)|(apply zN;intros)|(apply zO;intros)|(apply zT;omega)|(apply zU;omega)|(apply zP;omega;intros)|(apply zQ;omega;intros)|apply zR);cbv))
    rename_i r hr
    have hs9 := hstep r hr
    rw [hps] at hs9
    refine RoundK.forget (r,L9,n9,false) ⟨by omega,by omega,by rw [hs9];simp [hL9,hL,strD],hn9,by rw [hs9],by rw [hL9];simp only [List.length_cons,List.length_nil,List.length_append] at *;omega⟩ (by omega) rfl rfl ?_ ?_
    ·have hi9 : ∀ k,idbL k L9 = true := fun k => pure_idbL k _ (by rw [show L9 = (putSt s (l.take r.toNat)).1.map strD by rw [hs9];simp [hL9,hL,strD]];exact strs_pure _)
     simp [idbL,idb,hBi,hi9]
    ·simp [cellIdb]
 ·have hall : l.take i.toNat = l := List.take_of_length_le (by omega)
  rw [hall] at hL hdn
  unfold putL at hQ
  rcases hP : putSt s l with ⟨P,pd⟩
  rw [hP] at hL hdn hQ
  simp only at hL hdn hQ
  subst hdn
  cases dn with
  | true =>
   cbv
   (repeat'((first|(apply zS;kernel_rfl)|(apply zD;decide +kernel)|(apply zE;decide +kernel)|(apply zF;decide +kernel)|(apply zL;decide +kernel)|(apply zM;decide +kernel)|(apply zN;intros)|(apply zO;intros)|(apply zT;omega)|(apply zU;omega)|(apply zP;omega;intros)|(apply zQ;omega;intros)|apply zR);cbv))
   rw [hL]
   exact ⟨hQ _ _⟩
  | false =>
   cbv
   (repeat'((first|(apply zS;kernel_rfl)|(apply zD;decide +kernel)|(apply zE;decide +kernel)|(apply zF;decide +kernel)|(apply zL;decide +kernel)|(apply zM;decide +kernel)|(apply zN;intros)|(apply zO;intros)|(apply zT;omega)|(apply zU;omega)|(apply zP;omega;intros)|(apply zQ;omega;intros)|apply zR);cbv))
   refine AppK.sl el_strs el_strs rfl hnl (by simp only [List.length_cons,List.length_nil,List.length_append];omega) ?_
   intro L8 n8 hL8 hn8
   have hq8 : L8.length = L.length + 1 := by rw [hL8];simp
   cbv
   (repeat'((first|(apply zS;kernel_rfl)|(apply zD;decide +kernel)|(apply zE;decide +kernel)|(apply zF;decide +kernel)|(apply zL;decide +kernel)|(apply zM;decide +kernel)|(apply zN;intros)|(apply zO;intros)|(apply zT;omega)|(apply zU;omega)|(apply zP;omega;intros)|(apply zQ;omega;intros)|apply zR);cbv))
   have e8 : L8 = (P ++ [s]).map strD := by rw [hL8,hL];simp [strD]
   rw [e8]
   exact ⟨hQ _ _⟩
theorem putL_pure (l : List ByteArray) (s : ByteArray) : pureD (.sl none 1 ((putL l s).map strD)) = some (.sl none 1 ((putL l s).map strD)) := by
 have h := strs_pure (putL l s)
 generalize (putL l s).map strD = L at *
 simp [pureD,h]
theorem putv_cp (l : List ByteArray) (hl : l.length ≤ 140737488355) (s : ByteArray) : CP (TT ()) 43 [.sl none 1 (l.map strD),.raw (.string s)] (· = .sl none 1 ((putL l s).map strD)) := c4_runW (putL_pure l s) fun Q hQ => putv_run l hl s Q hQ
theorem putL_len (l : List ByteArray) (s : ByteArray) : (putL l s).length ≤ l.length + 1 := by
 rw [putL_eq]
 exact putR_len s l
theorem foldPut_len : ∀ (m l : List ByteArray),(m.foldl putL l).length ≤ l.length + m.length
 | [],l => by simp
 | s :: r,l => by
  have := foldPut_len r (putL l s)
  have := putL_len l s
  simp only [List.foldl_cons,List.length_cons]
  omega
theorem foldPut_is : ∀ (m N L : List ByteArray),VarsIs N L -> VarsIs (N ++ m) (m.foldl putL L)
 | [],N,L,h => by simpa using h
 | s :: r,N,L,h => by
  have := foldPut_is r (N ++ [s]) (putL L s) (varsIs_put h s)
  simpa using this
end Go.Proofs.Ytglefhgcfijiaaa

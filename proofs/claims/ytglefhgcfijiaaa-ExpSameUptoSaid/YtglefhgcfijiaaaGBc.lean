/- Parts of the proof: ExA, ExR, TyVq, ExV. -/
import Derived.RangeFuncNested
import Derived.RangeFuncBound
import Derived.RangeFuncCalls
import Derived.RangeFuncLeaves
import Derived.Shelf.Abstract
import Derived.Shelf.RegionOpen
import Derived.OwnWalkIn
import Derived.TacticsInMore
import Derived.LoopNIn
import Derived.LoopIn
import Derived.Laws.OwnMore
import Derived.Maps.AppendAt
import Derived.Shelf.Small.Bits
import Derived.Shelf.Strconv.Itoa0
import Derived.Shelf.Sort.Plain
import Derived.Shelf.Slices.Equal
import Derived.Shelf.Slices.CompactS
import Derived.Shelf.Slices.Cells
import Derived.Shelf.Slices.In.SortNone
import Derived.Shelf.Slices.Empties2
import Derived.Test.YtglefhgcfijiaaaRows
import Derived.Test.YtglefhgcfijiaaaGAx
import Derived.Test.YtglefhgcfijiaaaGAl
import Derived.Test.YtglefhgcfijiaaaGBb
import Derived.Test.YtglefhgcfijiaaaGAz
import Derived.Test.YtglefhgcfijiaaaGAh
import Derived.Test.YtglefhgcfijiaaaGAk
set_option linter.unusedSimpArgs false
set_option linter.unusedVariables false
set_option maxRecDepth 1000000
set_option maxHeartbeats 40000000
namespace Go.Proofs.Ytglefhgcfijiaaa
open Go.RowKit Go.Shelf Pv
attribute [local go_sem] Oper.semAt_some
variable {G : Nat -> Nat -> Prop}
def Cells7 (W : World) (B : Nat) (vs : Array Value) : Prop := W.heap[B]? = some (.cells vs 26 (0,0))
theorem Cells7.lt {W : World} {B : Nat} {vs : Array Value} (h : Cells7 W B vs) : B < W.heap.size := (Array.getElem?_eq_some_iff.1 (show W.heap[B]? = _ from h)).1
theorem Cells7.new (W : World) (vs : Array Value) : Cells7 (W.alloc (.cells vs 26)) W.heap.size vs := World.alloc_heap_new W _
theorem Cells7.alloc {W : World} {B : Nat} {vs : Array Value} (h : Cells7 W B vs) (o : Obj) : Cells7 (W.alloc o) B vs := (Below.heap_alloc _ _ _ h.lt).trans h
theorem Cells7.exprW {W : World} {B : Nat} {vs : Array Value} (h : Cells7 W B vs) (v0 v1 v2 v3 v4 v5 v6 : Value) : Cells7 (exprW W v0 v1 v2 v3 v4 v5 v6) B vs := ((h.alloc _).alloc _).alloc _
theorem Cells7.other {W : World} {B : Nat} {vs : Array Value} (h : Cells7 W B vs) {B' i : Nat} (hne : B ≠ B') (u : Value) : Cells7 (W.setCell ⟨B',i,none⟩ u) B vs := (Below.heap_setCell _ _ _ _ hne).trans h
theorem cells7_own {w0 : World} (B : Nat) (vs : Array Value) : Own (fun (_ : List (Ne G w0)) W => Cells7 W B vs) := fun s X Y row hs hg hrow => by
 have hlt : B < X.heap.size := Cells7.lt hs
 exact (hg.block B hlt (fun e' => by obtain ⟨o,ho,hc⟩ := hrow B e'.symm;rw [show X.heap[B]? = _ from hs] at ho;cases ho;cases hc)).trans hs
theorem Cells7.set {W : World} {B i : Nat} {vs : Array Value} (h : Cells7 W B vs) (u : Value) : Cells7 (W.setCell ⟨B,i,none⟩ u) B (vs.setIfInBounds i u) := by
 obtain ⟨hlt,hk⟩ := Array.getElem?_eq_some_iff.1 (show W.heap[B]? = _ from h)
 show (W.heap.modify B _)[B]? = _
 rw [Array.getElem?_eq_getElem (by rw [Array.size_modify];exact hlt),Array.getElem_modify_self,hk]
 try rfl
theorem Cells7.cell {W : World} {B i : Nat} {vs : Array Value} {v : Value} (h : Cells7 W B vs) (hi : vs[i]? = some v) : W.cell? ⟨B,i,none⟩ = some v := box_cell h hi
theorem Cells7.frozen {W : World} {B i : Nat} {vs : Array Value} (h : Cells7 W B vs) : W.frozen? ⟨B,i,none⟩ = false := by simp [World.frozen?,show W.heap[B]? = _ from h]
abbrev set7 (W : World) (B : Nat) (u0 u1 u2 u3 u4 u5 u6 : Value) : World :=
 ((((((W.setCell ⟨B,0,none⟩ u0).setCell ⟨B,1,none⟩ u1).setCell ⟨B,2,none⟩ u2).setCell ⟨B,3,none⟩ u3).setCell ⟨B,4,none⟩ u4).setCell ⟨B,5,none⟩ u5).setCell ⟨B,6,none⟩ u6
theorem boxed_otherI {W : World} {B B' i : Nat} {t : TypeId} {v : Value} (h : Boxed W B t v) (hne : B ≠ B') (u : Value) : Boxed (W.setCell ⟨B',i,none⟩ u) B t v := (Below.heap_setCell _ _ _ _ hne).trans h
theorem boxed_set7 {W : World} {B B' : Nat} {t : TypeId} {v : Value} (h : Boxed W B' t v) (hne : B' ≠ B) (u0 u1 u2 u3 u4 u5 u6 : Value) : Boxed (set7 W B u0 u1 u2 u3 u4 u5 u6) B' t v :=
 boxed_otherI (boxed_otherI (boxed_otherI (boxed_otherI (boxed_otherI (boxed_otherI (boxed_otherI h hne _) hne _) hne _) hne _) hne _) hne _) hne _
theorem Cells7.setTo {W : World} {B i : Nat} {vs us : Array Value} (h : Cells7 W B vs) (u : Value) (e : vs.setIfInBounds i u = us) : Cells7 (W.setCell ⟨B,i,none⟩ u) B us := e ▸ h.set u
theorem below_set7 {B0 : Nat} {a W : World} (h : Below B0 a W) {B : Nat} (hB : B0 ≤ B) (u0 u1 u2 u3 u4 u5 u6 : Value) : Below B0 a (set7 W B u0 u1 u2 u3 u4 u5 u6) :=
 ((((((h.setCell (p := ⟨B,0,none⟩) hB _).setCell (p := ⟨B,1,none⟩) hB _).setCell (p := ⟨B,2,none⟩) hB _).setCell (p := ⟨B,3,none⟩) hB _).setCell (p := ⟨B,4,none⟩) hB _).setCell (p := ⟨B,5,none⟩) hB _).setCell (p := ⟨B,6,none⟩) hB _
theorem keeps_set7 (W : World) (B : Nat) (u0 u1 u2 u3 u4 u5 u6 : Value) : KeepsOthers W (set7 W B u0 u1 u2 u3 u4 u5 u6) :=
 ((((((KeepsOthers.setCell _ _ _).trans (KeepsOthers.setCell _ _ _)).trans (KeepsOthers.setCell _ _ _)).trans (KeepsOthers.setCell _ _ _)).trans (KeepsOthers.setCell _ _ _)).trans (KeepsOthers.setCell _ _ _)).trans (KeepsOthers.setCell _ _ _)
theorem cells7_set7 {W : World} {B : Nat} {z0 z1 z2 z3 z4 z5 z6 : Value} (h : Cells7 W B #[z0,z1,z2,z3,z4,z5,z6]) (u0 u1 u2 u3 u4 u5 u6 : Value) : Cells7 (set7 W B u0 u1 u2 u3 u4 u5 u6) B #[u0,u1,u2,u3,u4,u5,u6] := by
 have h0 := h.setTo (i := 0) (us := #[u0,z1,z2,z3,z4,z5,z6]) u0 rfl
 have h1 := h0.setTo (i := 1) (us := #[u0,u1,z2,z3,z4,z5,z6]) u1 rfl
 have h2 := h1.setTo (i := 2) (us := #[u0,u1,u2,z3,z4,z5,z6]) u2 rfl
 have h3 := h2.setTo (i := 3) (us := #[u0,u1,u2,u3,z4,z5,z6]) u3 rfl
 have h4 := h3.setTo (i := 4) (us := #[u0,u1,u2,u3,u4,z5,z6]) u4 rfl
 have h5 := h4.setTo (i := 5) (us := #[u0,u1,u2,u3,u4,u5,z6]) u5 rfl
 exact h5.setTo (i := 6) u6 rfl
mutual
theorem walk_subs : ∀ (t : Ex7) (d : Int),(walkE d t).map Prod.snd = subsE t
 | .mk k n nm hs ts ls ks,d => by
  simp only [walkE,subsE,List.map_cons]
  rw [walk_subsL ks]
theorem walk_subsL : ∀ (ks : List Ex7) (d : Int),(walkEL d ks).map Prod.snd = subsEL ks
 | [],d => rfl
 | t :: r,d => by
  simp only [walkEL,subsEL,List.map_append]
  rw [walk_subs t,walk_subsL r]
end
theorem atE_zero (t : Ex7) : atE t 0 = none := by
 obtain ⟨k,n,nm,hs,ts,ls,ks⟩ := t
 rfl
theorem at_none {t : Ex7} {k : Int} (h : ¬ (1 ≤ k ∧ k ≤ countE t)) : atE t k.toNat = none := by
 by_cases h1 : 1 ≤ k
 ·obtain ⟨j,hj⟩ : ∃ j,k.toNat = j + 1 := ⟨k.toNat - 1,by omega⟩
  rw [hj,at_subs]
  exact List.getElem?_eq_none (by rw [subs_len];omega)
 ·rw [show k.toNat = 0 by omega,atE_zero]
theorem at_some {w0 : World} {t : Ex7} {pre : List (Ne G w0)} {x : Ne G w0} (h : (pre ++ [x]).map Ne.key <+: walkE 1 t) {k : Int} (hk : k = ((pre ++ [x]).length : Nat)) : atE t k.toNat = some x.t := by
 have hk' : k.toNat = pre.length + 1 := by rw [hk,List.length_append,List.length_cons,List.length_nil];omega
 rw [hk',at_subs,← walk_subs t 1,List.getElem?_map]
 obtain ⟨r,hr⟩ := h
 rw [← hr,List.getElem?_append_left (by simp),List.getElem?_map,List.getElem?_append_right (Nat.le_refl _)]
 simp [Ne.key]
theorem peat_any (t : Ex7) (k : Int) (v0 v1 v2 v3 v4 v5 v6 : Value) (w : World) (hT : ExIn G w t v0 v1 v2 v3 v4 v5 v6) :
  Calls Try.prog 8 #[.agg #[v0,v1,v2,v3,v4,v5,v6],.int .i64 k] w fun e w' => ∃ v,e = .returned v ∧ Below w.heap.size w w' ∧ Pv.Rd (bare G) w' (atP (atE t k.toNat)) v := by
 refine (callsIn_wide (n := 6)).1 ?_
 have hf1 : Fence.wide.fn 32 := trivial
 have HT := Asd.mk hT
 clear hT
 refine callsIn_of_wp_marks Try.func8 rfl trivial ?_ rfl
 simp only [Try.ntmps8,List.size_toArray,List.length_cons,List.length_nil,Nat.reduceAdd,Nat.reduceSub,Array.replicate_succ,Array.replicate_zero,List.push_toArray,List.append_toArray,List.nil_append,List.cons_append]
 gi_wp2_with (gi_at_call 32;refine (callsIn_wide.2 (exprs_any v0 v1 v2 v3 v4 v5 v6 _)).mono ?_;rintro e w' ⟨rfl,rfl⟩)
 have b1 := boxed_exprW ((((Boxed.new (w.alloc (.cells #[v0,v1,v2,v3,v4,v5,v6] 26)) 3 (.int .i64 k)).alloc (.cells #[.int .i64 0,.int .i64 0,.string ⟨#[]⟩,.bool false,.slice none 0 0,.slice none 0 0,.slice none 0 0] 26)).alloc (.cells #[.bool false] 4)).alloc (.cells #[.int .i64 0] 3)) v0 v1 v2 v3 v4 v5 v6
 have b3 := boxed_exprW ((Boxed.new (((w.alloc (.cells #[v0,v1,v2,v3,v4,v5,v6] 26)).alloc (.cells #[.int .i64 k] 3)).alloc (.cells #[.int .i64 0,.int .i64 0,.string ⟨#[]⟩,.bool false,.slice none 0 0,.slice none 0 0,.slice none 0 0] 26)) 4 (.bool false)).alloc (.cells #[.int .i64 0] 3)) v0 v1 v2 v3 v4 v5 v6
 have b4 := boxed_exprW (Boxed.new ((((w.alloc (.cells #[v0,v1,v2,v3,v4,v5,v6] 26)).alloc (.cells #[.int .i64 k] 3)).alloc (.cells #[.int .i64 0,.int .i64 0,.string ⟨#[]⟩,.bool false,.slice none 0 0,.slice none 0 0,.slice none 0 0] 26)).alloc (.cells #[.bool false] 4)) 3 (.int .i64 0)) v0 v1 v2 v3 v4 v5 v6
 have bZ := Cells7.exprW (((Cells7.new ((w.alloc (.cells #[v0,v1,v2,v3,v4,v5,v6] 26)).alloc (.cells #[.int .i64 k] 3)) #[.int .i64 0,.int .i64 0,.string ⟨#[]⟩,.bool false,.slice none 0 0,.slice none 0 0,.slice none 0 0]).alloc (.cells #[.bool false] 4)).alloc (.cells #[.int .i64 0] 3)) v0 v1 v2 v3 v4 v5 v6
 have bA := exprW_root (((((w.alloc (.cells #[v0,v1,v2,v3,v4,v5,v6] 26)).alloc (.cells #[.int .i64 k] 3)).alloc (.cells #[.int .i64 0,.int .i64 0,.string ⟨#[]⟩,.bool false,.slice none 0 0,.slice none 0 0,.slice none 0 0] 26)).alloc (.cells #[.bool false] 4)).alloc (.cells #[.int .i64 0] 3)) v0 v1 v2 v3 v4 v5 v6
 have bP := exprW_parts (((((w.alloc (.cells #[v0,v1,v2,v3,v4,v5,v6] 26)).alloc (.cells #[.int .i64 k] 3)).alloc (.cells #[.int .i64 0,.int .i64 0,.string ⟨#[]⟩,.bool false,.slice none 0 0,.slice none 0 0,.slice none 0 0] 26)).alloc (.cells #[.bool false] 4)).alloc (.cells #[.int .i64 0] 3)) v0 v1 v2 v3 v4 v5 v6
 have hB0 : Below w.heap.size w (exprW (((((w.alloc (.cells #[v0,v1,v2,v3,v4,v5,v6] 26)).alloc (.cells #[.int .i64 k] 3)).alloc (.cells #[.int .i64 0,.int .i64 0,.string ⟨#[]⟩,.bool false,.slice none 0 0,.slice none 0 0,.slice none 0 0] 26)).alloc (.cells #[.bool false] 4)).alloc (.cells #[.int .i64 0] 3)) v0 v1 v2 v3 v4 v5 v6) := below_exprW ((((((Below.refl _ w).alloc (by first | omega | (simp only [World.size_alloc] <;> omega)) _).alloc (by first | omega | (simp only [World.size_alloc] <;> omega)) _).alloc (by first | omega | (simp only [World.size_alloc] <;> omega)) _).alloc (by first | omega | (simp only [World.size_alloc] <;> omega)) _).alloc (by first | omega | (simp only [World.size_alloc] <;> omega)) _) (by simp only [World.size_alloc] <;> omega) v0 v1 v2 v3 v4 v5 v6
 have hsz : (exprW (((((w.alloc (.cells #[v0,v1,v2,v3,v4,v5,v6] 26)).alloc (.cells #[.int .i64 k] 3)).alloc (.cells #[.int .i64 0,.int .i64 0,.string ⟨#[]⟩,.bool false,.slice none 0 0,.slice none 0 0,.slice none 0 0] 26)).alloc (.cells #[.bool false] 4)).alloc (.cells #[.int .i64 0] 3)) v0 v1 v2 v3 v4 v5 v6).heap.size = w.heap.size + 8 := by rw [exprW_size];simp only [World.size_alloc] <;> omega
 simp only [World.size_alloc] at b1 b3 b4 bZ bA bP
 obtain ⟨W0,hW0⟩ : ∃ W0,exprW (((((w.alloc (.cells #[v0,v1,v2,v3,v4,v5,v6] 26)).alloc (.cells #[.int .i64 k] 3)).alloc (.cells #[.int .i64 0,.int .i64 0,.string ⟨#[]⟩,.bool false,.slice none 0 0,.slice none 0 0,.slice none 0 0] 26)).alloc (.cells #[.bool false] 4)).alloc (.cells #[.int .i64 0] 3)) v0 v1 v2 v3 v4 v5 v6 = W0 := ⟨_,rfl⟩
 rw [hW0] at b1 b3 b4 bZ bA bP hB0 hsz ⊢
 clear hW0
 refine wpIn_rangeFunc_ownH rfl (by omega) (gf := 68) (lb := #[.pointer (some ⟨w.heap.size + 1 + 1 + 1 + 1 + 1 + 1,0,none⟩),.pointer (some ⟨w.heap.size + 1 + 1 + 1 + 1 + 1 + 1 + 1,0,none⟩)]) rfl trivial (enters_of Try.func68 (by kernel_rfl) rfl)
  (exprs_stops 5 (w.heap.size + 1 + 1 + 1 + 1 + 1 + 1) (w.heap.size + 1 + 1 + 1 + 1 + 1 + 1 + 1) (w.heap.size + 8) (fun k => k = w.heap.size + 1 + 1 + 1 + 1) (fun k h => by omega) w W0 t v0 v1 v2 v3 v4 v5 v6 HT.out hB0 (by omega) bA bP) kpE_t (kpE_b (by omega)) (Below.refl _ _) (fun _ => rfl)
  (fun pre W => (((((Boxed W (w.heap.size + 1 + 1 + 1 + 1) 3 (.int .i64 (pre.length : Nat)) ∧ Boxed W (w.heap.size + 1) 3 (.int .i64 k)) ∧ Boxed W (w.heap.size + 1 + 1 + 1) 4 (.bool false)) ∧ Cells7 W (w.heap.size + 1 + 1) #[.int .i64 0,.int .i64 0,.string ⟨#[]⟩,.bool false,.slice none 0 0,.slice none 0 0,.slice none 0 0]) ∧ ¬ (1 ≤ k ∧ k ≤ (pre.length : Nat))) ∧ pre.length ≤ 1000000) ∧ Below w.heap.size w W)
  (fun c pre W => ((c = .ret ∧ ∃ (q : List (Ne G w)) (y : Ne G w),pre = q ++ [y] ∧ k = (pre.length : Nat) ∧ Cells7 W (w.heap.size + 1 + 1) #[y.v0,y.v1,y.v2,y.v3,y.v4,y.v5,y.v6]) ∧ Boxed W (w.heap.size + 1 + 1 + 1) 4 (.bool true)) ∧ Below w.heap.size w W)
  (OwnFrom.and (OwnFrom.and (OwnFrom.and (OwnFrom.and (OwnFrom.and (OwnFrom.and (Own.from (boxed_own _ _ _) _) (Own.from (boxed_own _ _ _) _)) (Own.from (boxed_own _ _ _) _)) (Own.from (cells7_own _ _) _)) (ownFrom_pure _ _)) (ownFrom_pure _ _)) (ownFrom_below (Nat.le_refl _) (by omega)))
  (fun c => OwnFrom.and (OwnFrom.and (fun pre X Y row hs hg hr => by
   obtain ⟨h0,q,y,h1,h2,h3⟩ := hs
   exact ⟨h0,q,y,h1,h2,(cells7_own (G := G) (w0 := w) _ _) pre X Y row h3 hg (fun r e => (hr r e).2)⟩) (Own.from (boxed_own _ _ _) _)) (ownFrom_below (Nat.le_refl _) (by omega)))
  ⟨⟨⟨⟨⟨⟨b4,b1⟩,b3⟩,bZ⟩,by simp only [List.length_nil] <;> omega⟩,by simp⟩,hB0⟩
  (fun x a' W => ∃ Bx,Box7 W Bx x ∧ a' = { tmps := #[.agg #[v0,v1,v2,v3,v4,v5,v6],.int .i64 k,.pointer (some ⟨w.heap.size,0,none⟩),.pointer (some ⟨w.heap.size + 1,0,none⟩),.pointer (some ⟨w.heap.size + 1 + 1,0,none⟩),.pointer (some ⟨w.heap.size + 1 + 1 + 1,0,none⟩),.pointer (some ⟨w.heap.size + 1 + 1 + 1 + 1,0,none⟩),undef,.pointer (some ⟨Bx,0,none⟩),.agg #[v0,v1,v2,v3,v4,v5,v6],.func (.func 68) #[] #[.pointer (some ⟨w.heap.size + 1 + 1 + 1 + 1 + 1 + 1,0,none⟩),.pointer (some ⟨w.heap.size + 1 + 1 + 1 + 1 + 1 + 1 + 1,0,none⟩)],.int .i64 x.d,.agg #[x.v0,x.v1,x.v2,x.v3,x.v4,x.v5,x.v6],undef,undef,undef,undef,undef,undef,undef],defers := [] })
  (fun x a' _ X Y row hs hg hr => by
   obtain ⟨Bx,h1,h2⟩ := hs
   exact ⟨Bx,box7_own Bx x () X Y row h1 hg (fun r e => (hr r e).2),h2⟩)
  ?assign ?body ?done ?stop
 case assign =>
  rintro l pre x W K ⟨⟨⟨⟨⟨⟨bS1,bK1⟩,bR1⟩,bZ1⟩,h3⟩,h4⟩,hB1⟩ hK
  have hW := hB1.size
  obtain ⟨d,t',u0,u1,u2,u3,u4,u5,u6,hu⟩ := x
  obtain ⟨k',n',nm',hs',ts',ls',ks'⟩ := t'
  obtain ⟨a4',c4x,a5',c5x,a6',c6x,rfl,rfl,rfl,rfl,rfl,rfl,rfl,_⟩ := hu.form
  simp only [Ne.vals,zip2]
  gi_wp2
  exact hK _ _ ((KeepsOthers.alloc _ _).from _) (KpE.of_below hW ((Below.refl _ _).alloc (Nat.le_refl _) _)) ⟨⟨⟨⟨⟨⟨bS1.alloc _,bK1.alloc _⟩,bR1.alloc _⟩,bZ1.alloc _⟩,h3⟩,h4⟩,hB1.alloc hB1.size _⟩ ⟨W.heap.size,World.alloc_heap_new W _,rfl⟩
 case body =>
  rintro l pre x a' W hl hr ⟨⟨⟨⟨⟨⟨bS1,bK1⟩,bR1⟩,bZ1⟩,h3⟩,h4⟩,hB1⟩ ⟨Bx,bX,rfl⟩ hlt
  have hcap : (walkE 1 t).length ≤ 1000000 := by
   rw [walkE_len]
   exact Nat.le_trans (count_nodes t) HT.out.2.1
  have cS := bS1.cell
  have fS := bS1.frozen
  have hne : Bx ≠ w.heap.size + 1 + 1 + 1 + 1 := fun e => by
   have h1 : W.heap[Bx]? = _ := bX
   rw [e,show W.heap[w.heap.size + 1 + 1 + 1 + 1]? = _ from bS1] at h1
   simp at h1
  have bX1 : Box7 (W.setCell ⟨w.heap.size + 1 + 1 + 1 + 1,0,none⟩ (.int .i64 ((pre.length : Nat) + 1))) Bx x := (Below.heap_setCell _ _ _ _ hne).trans bX
  obtain ⟨d,t',u0,u1,u2,u3,u4,u5,u6,hu⟩ := x
  obtain ⟨k',n',nm',hs',ts',ls',ks'⟩ := t'
  obtain ⟨a4',c4x,a5',c5x,a6',c6x,rfl,rfl,rfl,rfl,rfl,rfl,rfl,_⟩ := hu.form
  have hx0 := box_cell (i := 0) bX1 rfl
  have hx1 := box_cell (i := 1) bX1 rfl
  have hx2 := box_cell (i := 2) bX1 rfl
  have hx3 := box_cell (i := 3) bX1 rfl
  have hx4 := box_cell (i := 4) bX1 rfl
  have hx5 := box_cell (i := 5) bX1 rfl
  have hx6 := box_cell (i := 6) bX1 rfl
  have bS2 := bS1.set (.int .i64 ((pre.length : Nat) + 1))
  have cS2 := bS2.cell
  have bK2 := bK1.other (B' := (w.heap.size + 1 + 1 + 1 + 1)) (by omega) (.int .i64 ((pre.length : Nat) + 1))
  have cK2 := bK2.cell
  have cK := bK1.cell
  have fZ0 := bZ1.frozen (i := 0)
  have fZ1 := bZ1.frozen (i := 1)
  have fZ2 := bZ1.frozen (i := 2)
  have fZ3 := bZ1.frozen (i := 3)
  have fZ4 := bZ1.frozen (i := 4)
  have fZ5 := bZ1.frozen (i := 5)
  have fZ6 := bZ1.frozen (i := 6)
  have fR := bR1.frozen
  have cZ0 := bZ1.cell (i := 0) rfl
  have cZ1 := bZ1.cell (i := 1) rfl
  have cZ2 := bZ1.cell (i := 2) rfl
  have cZ3 := bZ1.cell (i := 3) rfl
  have cZ4 := bZ1.cell (i := 4) rfl
  have cZ5 := bZ1.cell (i := 5) rfl
  have cZ6 := bZ1.cell (i := 6) rfl
  have cR := bR1.cell
  by_cases hk : k = (pre.length : Nat) + 1
  ·gi_wp2
   refine ⟨((KeepsOthers.setCell _ _ _).trans ((keeps_set7 _ _ _ _ _ _ _ _ _).trans (KeepsOthers.setCell _ _ _))).from _,⟨⟨rfl,pre,_,rfl,by simp <;> omega,(cells7_set7 (bZ1.other (B' := (w.heap.size + 1 + 1 + 1 + 1)) (by omega) _) _ _ _ _ _ _ _).other (by omega) _⟩,(boxed_set7 (bR1.other (B' := (w.heap.size + 1 + 1 + 1 + 1)) (by omega) _) (by omega) _ _ _ _ _ _ _).set _⟩,(below_set7 (hB1.setCell (p := ⟨w.heap.size + 1 + 1 + 1 + 1,0,none⟩) (by simp <;> omega) _) (by omega) _ _ _ _ _ _ _).setCell (p := ⟨w.heap.size + 1 + 1 + 1,0,none⟩) (by simp <;> omega) _⟩
  ·gi_wp2
   refine ⟨(KeepsOthers.setCell _ _ _).from _,KpE.store (S := fun k => k = (w.heap.size + 1 + 1 + 1 + 1)) W rfl (by omega) _,⟨⟨⟨⟨⟨⟨?_,bK2⟩,bR1.other (by omega) _⟩,bZ1.other (by omega) _⟩,by simp <;> omega⟩,by simp <;> omega⟩,hB1.setCell (p := ⟨w.heap.size + 1 + 1 + 1 + 1,0,none⟩) (by simp <;> omega) _⟩⟩
   have e1 : ∀ y : Ne G w,(((pre ++ [y]).length : Nat) : Int) = (pre.length : Nat) + 1 := fun y => by simp
   rw [e1]
   exact bS2
 case done =>
  rintro D xs W hD hxs ⟨⟨⟨⟨⟨⟨bS1,bK1⟩,bR1⟩,bZ1⟩,h3⟩,h4⟩,hB1⟩ hK
  have fR := bR1.frozen
  have fZ0 := bZ1.frozen (i := 0)
  have fZ1 := bZ1.frozen (i := 1)
  have fZ2 := bZ1.frozen (i := 2)
  have fZ3 := bZ1.frozen (i := 3)
  have fZ4 := bZ1.frozen (i := 4)
  have fZ5 := bZ1.frozen (i := 5)
  have fZ6 := bZ1.frozen (i := 6)
  have cZ0 := bZ1.cell (i := 0) rfl
  have cZ1 := bZ1.cell (i := 1) rfl
  have cZ2 := bZ1.cell (i := 2) rfl
  have cZ3 := bZ1.cell (i := 3) rfl
  have cZ4 := bZ1.cell (i := 4) rfl
  have cZ5 := bZ1.cell (i := 5) rfl
  have cZ6 := bZ1.cell (i := 6) rfl
  have cR := bR1.cell
  gi_wp2
  have hKs := (keeps_set7 W (w.heap.size + 1 + 1) (.int .i64 0) (.int .i64 0) (.string ⟨#[]⟩) (.bool false) (.slice none 0 0) (.slice none 0 0) (.slice none 0 0)).trans (KeepsOthers.setCell _ ⟨w.heap.size + 1 + 1 + 1,0,none⟩ (.bool false))
  have hK' := hKs.same D _ hK rfl
  refine ⟨by simp,.inl ⟨_,_,rfl,run_takeDeferred hK',?_⟩⟩
  have hz := (cells7_set7 bZ1 (.int .i64 0) (.int .i64 0) (.string ⟨#[]⟩) (.bool false) (.slice none 0 0) (.slice none 0 0) (.slice none 0 0)).other (B' := (w.heap.size + 1 + 1 + 1)) (i := 0) (by omega) (.bool false)
  have hr := (boxed_set7 bR1 (by omega) (B := (w.heap.size + 1 + 1)) (.int .i64 0) (.int .i64 0) (.string ⟨#[]⟩) (.bool false) (.slice none 0 0) (.slice none 0 0) (.slice none 0 0)).set (.bool false)
  have hB2 := (below_set7 hB1 (B := (w.heap.size + 1 + 1)) (by omega) (.int .i64 0) (.int .i64 0) (.string ⟨#[]⟩) (.bool false) (.slice none 0 0) (.slice none 0 0) (.slice none 0 0)).setCell (p := ⟨w.heap.size + 1 + 1 + 1,0,none⟩) (by simp <;> omega) (.bool false)
  have kept := fun {i : Nat} {v : Value} (h : World.cell? _ ⟨w.heap.size + 1 + 1,i,none⟩ = some v) => cell_kept h (grownBy_putObj' _ D (.deferred none)) (fun r e => by cases e;exact ⟨_,hK',rfl⟩)
  have g0 := kept (hz.cell (i := 0) rfl)
  have g1 := kept (hz.cell (i := 1) rfl)
  have g2 := kept (hz.cell (i := 2) rfl)
  have g3 := kept (hz.cell (i := 3) rfl)
  have g4 := kept (hz.cell (i := 4) rfl)
  have g5 := kept (hz.cell (i := 5) rfl)
  have g6 := kept (hz.cell (i := 6) rfl)
  have g7 := cell_kept hr.cell (grownBy_putObj' _ D (.deferred none)) (fun r e => by cases e;exact ⟨_,hK',rfl⟩)
  refine ⟨.tuple #[.agg #[.int .i64 0,.int .i64 0,.string ⟨#[]⟩,.bool false,.slice none 0 0,.slice none 0 0,.slice none 0 0],.bool false],?_,_,rfl,hB2.trans (belowK_b (w := w) (Nat.le_refl _) _ D _ _ (by omega) hK' rfl rfl),?_⟩
  ·simp [results,Try.results8,go_sem,g0,g1,g2,g3,g4,g5,g6,g7]
  ·rw [at_none (t := t) (k := k) (by rw [← lenE_keys hxs];exact h3)]
   exact zero7_wk _ _ _ ⟨_,rfl,_,_,rfl,⟨_,rfl,_,_,rfl,rfl,_,_,rfl,rfl,_,_,rfl,rfl,_,_,rfl,rfl,_,_,rfl,rfl,_,_,rfl,rfl,_,_,rfl,rfl,rfl⟩,_,_,rfl,rfl,rfl⟩
 case stop =>
  rintro D c pre W hD hpre ⟨⟨⟨rfl,q,y,rfl,hk,bZ1⟩,bR1⟩,hB1⟩ hK
  gi_wp2
  refine ⟨by simp,.inl ⟨_,_,rfl,run_takeDeferred hK,?_⟩⟩
  have kept := fun {i : Nat} {v : Value} (h : World.cell? _ ⟨w.heap.size + 1 + 1,i,none⟩ = some v) => cell_kept h (grownBy_putObj' _ D (.deferred none)) (fun r e => by cases e;exact ⟨_,hK,rfl⟩)
  have g0 := kept (bZ1.cell (i := 0) rfl)
  have g1 := kept (bZ1.cell (i := 1) rfl)
  have g2 := kept (bZ1.cell (i := 2) rfl)
  have g3 := kept (bZ1.cell (i := 3) rfl)
  have g4 := kept (bZ1.cell (i := 4) rfl)
  have g5 := kept (bZ1.cell (i := 5) rfl)
  have g6 := kept (bZ1.cell (i := 6) rfl)
  have g7 := cell_kept bR1.cell (grownBy_putObj' _ D (.deferred none)) (fun r e => by cases e;exact ⟨_,hK,rfl⟩)
  have hBf := hB1.trans (belowK_b (w := w) (Nat.le_refl _) W D (.deferred (some [])) (.deferred none) (by omega) hK rfl rfl)
  refine ⟨.tuple #[.agg #[y.v0,y.v1,y.v2,y.v3,y.v4,y.v5,y.v6],.bool true],?_,_,rfl,hBf,?_⟩
  ·simp [results,Try.results8,go_sem,g0,g1,g2,g3,g4,g5,g6,g7]
  ·rw [at_some hpre hk]
   exact ⟨_,rfl,_,_,rfl,(y.h.below hBf).2.2.2,_,_,rfl,rfl,rfl⟩
open Go.RowKit Pv
theorem VarsIs.congr {N M L : List ByteArray} (h : VarsIs N L) (e : ∀ s,s ∈ N ↔ s ∈ M) : VarsIs M L := ⟨h.1,fun s => (h.2 s).trans (e s)⟩
mutual
def callN : Ex7 -> List ByteArray
 | .mk k _ nm _ _ _ ks => (if k = 13 then [nm] else []) ++ callNL ks
def callNL : List Ex7 -> List ByteArray
 | [] => []
 | t :: r => callN t ++ callNL r
end
theorem varsIs_one (b : Bool) (nm : ByteArray) : VarsIs (if b = true then [nm] else []) (if b = true then [nm] else []) := by
 cases b
 ·exact ⟨List.Pairwise.nil,fun s => Iff.rfl⟩
 ·exact ⟨List.pairwise_singleton _ _,fun s => Iff.rfl⟩
mutual
theorem calls_is : ∀ e : Ex7,VarsIs (callN e) (callsE e)
 | .mk k n nm hs ts ls ks => by
  simp only [callN,callsE]
  refine callsL_is ks _ _ ?_
  have := varsIs_one (decide (k = 13)) nm
  simpa using this
theorem callsL_is : ∀ (ks : List Ex7) (N a : List ByteArray),VarsIs N a -> VarsIs (N ++ callNL ks) (callsEL a ks)
 | [],N,a,h => by simpa [callNL,callsEL] using h
 | t :: r,N,a,h => by
  simp only [callNL,callsEL]
  rw [← List.append_assoc]
  refine callsL_is r _ _ ((foldPut_is (callsE t) N a h).congr fun s => ?_)
  rw [List.mem_append,List.mem_append,(calls_is t).2 s]
end
def upF (F : ByteArray -> Int) (nm : ByteArray) : ByteArray -> Int := fun s => if s = nm then F s + 1 else F s
def bindB (k : Int) (i : Nat) : Prop := k = 7 ∨ (k = 5 ∧ 0 < i)
instance (k : Int) (i : Nat) : Decidable (bindB k i) := by unfold bindB;infer_instance
mutual
def freeN (F : ByteArray -> Int) : Ex7 -> List ByteArray
 | .mk k _ nm _ _ _ ks => (if k = 4 ∧ F nm = 0 then [nm] else []) ++ freeNL F k nm 0 ks
def freeNL (F : ByteArray -> Int) (k : Int) (nm : ByteArray) (i : Nat) : List Ex7 -> List ByteArray
 | [] => []
 | t :: r => freeN (if bindB k i then upF F nm else F) t ++ freeNL F k nm (i + 1) r
end
theorem freeNL_app (F : ByteArray -> Int) (k : Int) (nm : ByteArray) : ∀ (i : Nat) (x y : List Ex7),freeNL F k nm i (x ++ y) = freeNL F k nm i x ++ freeNL F k nm (i + x.length) y
 | i,[],y => by simp [freeNL]
 | i,t :: r,y => by
  simp only [List.cons_append,freeNL,List.length_cons]
  rw [freeNL_app F k nm (i + 1) r y,List.append_assoc]
  congr 3
  omega
theorem freeNL_step {F : ByteArray -> Int} {k : Int} {nm : ByteArray} {ks : List Ex7} {i : Nat} {t : Ex7} (h : ks[i]? = some t) : freeNL F k nm 0 (ks.take (i + 1)) = freeNL F k nm 0 (ks.take i) ++ freeN (if bindB k i then upF F nm else F) t := by
 have hl := (List.getElem?_eq_some_iff.1 h).1
 rw [ex_take h,freeNL_app]
 simp only [freeNL,List.length_take,Nat.zero_add,List.append_nil]
 rw [show min i ks.length = i by omega]
mutual
theorem freeN_len (F : ByteArray -> Int) : ∀ e : Ex7,(freeN F e).length ≤ countE e
 | .mk k n nm hs ts ls ks => by
  have := freeNL_len F k nm ks 0
  simp only [freeN,countE,List.length_append]
  split <;> simp <;> omega
theorem freeNL_len (F : ByteArray -> Int) (k : Int) (nm : ByteArray) : ∀ (ks : List Ex7) (i : Nat),(freeNL F k nm i ks).length ≤ countEL ks
 | [],i => by simp [freeNL]
 | t :: r,i => by
  have h1 := freeN_len (if bindB k i then upF F nm else F) t
  have h2 := freeNL_len F k nm r (i + 1)
  simp only [freeNL,countEL,List.length_append]
  omega
end
theorem foldPut_memI (m l : List ByteArray) (hl : l.Pairwise fun a b => ltS a b = true) : (m.foldl putL l).Pairwise (fun a b => ltS a b = true) ∧ ∀ u,u ∈ m.foldl putL l ↔ u ∈ l ∨ u ∈ m := by
 have h := foldPut_is m l l ⟨hl,fun _ => Iff.rfl⟩
 exact ⟨h.1,fun u => (h.2 u).trans List.mem_append⟩
mutual
theorem freeE_rises : ∀ e : Ex7,(freeE e).Pairwise fun a b => ltS a b = true
 | .mk k n nm hs ts ls ks => by
  simp only [freeE]
  refine freeEL_rises k nm ks 0 _ ?_
  split
  ·exact List.pairwise_singleton _ _
  ·exact List.Pairwise.nil
theorem freeEL_rises (k : Int) (nm : ByteArray) : ∀ (ks : List Ex7) (i : Nat) (a : List ByteArray),(a.Pairwise fun a b => ltS a b = true) -> (freeEL k nm i a ks).Pairwise fun a b => ltS a b = true
 | [],i,a,h => by simpa only [freeEL] using h
 | t :: r,i,a,h => by
  simp only [freeEL]
  exact freeEL_rises k nm r (i + 1) _ (foldPut_memI _ _ h).1
end
theorem keepF_mem' {k : Int} {nm : ByteArray} {i : Nat} {l : List ByteArray} {u : ByteArray} : u ∈ keepF k nm i l ↔ u ∈ l ∧ (bindB k i -> u ≠ nm) := by
 unfold keepF bindB
 split
 ·rename_i h
  rw [List.mem_filter]
  simp only [Bool.not_eq_true',h,true_implies]
  refine and_congr_right fun _ => ?_
  rw [Bool.eq_false_iff]
  exact not_congr eqS_iff
 ·rename_i h
  simp [h]
theorem freeEL_acc (k : Int) (nm : ByteArray) : ∀ (ks : List Ex7) (i : Nat) (a : List ByteArray),(a.Pairwise fun a b => ltS a b = true) -> ∀ u,u ∈ freeEL k nm i a ks ↔ u ∈ a ∨ u ∈ freeEL k nm i [] ks
 | [],i,a,_,u => by simp [freeEL]
 | t :: r,i,a,h,u => by
  simp only [freeEL]
  have h1 := foldPut_memI (keepF k nm i (freeE t)) a h
  have h2 := foldPut_memI (keepF k nm i (freeE t)) [] List.Pairwise.nil
  rw [freeEL_acc k nm r (i + 1) _ h1.1 u,freeEL_acc k nm r (i + 1) _ h2.1 u,h1.2 u,h2.2 u]
  simp [or_assoc]
theorem upF_pos {F : ByteArray -> Int} (h : ∀ s,0 ≤ F s) (nm : ByteArray) : ∀ s,0 ≤ upF F nm s := fun s => by
 have := h s
 unfold upF
 split <;> omega
mutual
theorem freeN_mem : ∀ (e : Ex7) (F : ByteArray -> Int),(∀ s,0 ≤ F s) -> ∀ u,u ∈ freeN F e ↔ u ∈ freeE e ∧ F u = 0
 | .mk k n nm hs ts ls ks,F,hF,u => by
  have hpw : (if k = 4 then [nm] else []).Pairwise fun a b => ltS a b = true := by
   split
   ·exact List.pairwise_singleton _ _
   ·exact List.Pairwise.nil
  simp only [freeN,freeE,List.mem_append]
  rw [freeNL_mem ks F hF k nm 0 u,freeEL_acc k nm ks 0 _ hpw u]
  by_cases hk : k = 4
  ·by_cases h0 : F nm = 0
   ·simp only [hk,h0,and_self,if_true,List.mem_singleton]
    constructor
    ·rintro (rfl | ⟨h1,h2⟩)
     ·exact ⟨.inl rfl,h0⟩
     ·exact ⟨.inr h1,h2⟩
    ·rintro ⟨rfl | h1,h2⟩
     ·exact .inl rfl
     ·exact .inr ⟨h1,h2⟩
   ·simp only [hk,h0,and_false,if_false,if_true,List.mem_singleton,List.not_mem_nil,false_or]
    constructor
    ·rintro ⟨h1,h2⟩
     exact ⟨.inr h1,h2⟩
    ·rintro ⟨rfl | h1,h2⟩
     ·exact absurd h2 h0
     ·exact ⟨h1,h2⟩
  ·simp only [hk,false_and,if_false,List.not_mem_nil,false_or]
theorem freeNL_mem : ∀ (ks : List Ex7) (F : ByteArray -> Int),(∀ s,0 ≤ F s) -> ∀ (k : Int) (nm : ByteArray) (i : Nat) (u : ByteArray),u ∈ freeNL F k nm i ks ↔ u ∈ freeEL k nm i [] ks ∧ F u = 0
 | [],F,hF,k,nm,i,u => by simp [freeNL,freeEL]
 | t :: r,F,hF,k,nm,i,u => by
  simp only [freeNL,freeEL,List.mem_append]
  have h2 := foldPut_memI (keepF k nm i (freeE t)) [] List.Pairwise.nil
  rw [freeNL_mem r F hF k nm (i + 1) u,freeEL_acc k nm r (i + 1) _ h2.1 u,h2.2 u,keepF_mem']
  simp only [List.not_mem_nil,false_or]
  have hx : u ∈ freeN (if bindB k i then upF F nm else F) t ↔ (u ∈ freeE t ∧ (bindB k i -> u ≠ nm)) ∧ F u = 0 := by
   by_cases hb : bindB k i
   ·rw [if_pos hb,freeN_mem t (upF F nm) (upF_pos hF nm) u]
    simp only [hb,true_implies,upF]
    have := hF u
    by_cases e : u = nm
    ·simp only [e,if_true,ne_eq,not_true,and_false,false_and,iff_false,not_and]
     rw [e] at this
     omega
    ·simp [e]
   ·rw [if_neg hb,freeN_mem t F hF u]
    simp [hb]
  rw [hx]
  constructor
  ·rintro (⟨h1,h3⟩ | ⟨h1,h3⟩)
   ·exact ⟨.inl h1,h3⟩
   ·exact ⟨.inr h1,h3⟩
  ·rintro ⟨h1 | h1,h3⟩
   ·exact .inl ⟨h1,h3⟩
   ·exact .inr ⟨h1,h3⟩
end
theorem free_is (e : Ex7) : VarsIs (freeN (fun _ => 0) e) (freeE e) :=
 ⟨freeE_rises e,fun s => ((freeN_mem e (fun _ => 0) (fun _ => Int.le_refl 0) s).trans ⟨fun h => h.1,fun h => ⟨h,rfl⟩⟩).symm⟩
section
open Go.Shelf
def lb_lays190_ren : Go.Shelf.Ren := ⟨fun | 190 => 66 | 125 => 79 | 258 => 78 | 128 => 98 | 129 => 99 | 302 => 89 | 303 => 90 | 304 => 91 | 305 => 92 | 306 => 93 | 307 => 94 | 308 => 95 | 309 => 96 | 310 => 97 | 333 => 103 | 329 => 104 | 330 => 105 | 334 => 106 | 335 => 107 | 336 => 108 | 344 => 112 | n => n,fun | 31 => 23 | 9 => 9 | 3 => 3 | 46 => 87 | 0 => 0 | 51 => 101 | 53 => 103 | 4 => 4 | 183 => 93 | 182 => 92 | 131 => 98 | 5 => 5 | 218 => 106 | 222 => 110 | 228 => 113 | 229 => 114 | n => n,fun | n => n⟩
theorem lb_lays190 : Go.Proofs.Lays.n190 Try.prog lb_lays190_ren := {
 mixed := by kernel_rfl
 f125 := Try.func79.trans (congrArg some (by kernel_rfl))
 f128 := Try.func98.trans (congrArg some (by kernel_rfl))
 f129 := Try.func99.trans (congrArg some (by kernel_rfl))
 f190 := Try.func66.trans (congrArg some (by kernel_rfl))
 f258 := Try.func78.trans (congrArg some (by kernel_rfl))
 f302 := Try.func89.trans (congrArg some (by kernel_rfl))
 f303 := Try.func90.trans (congrArg some (by kernel_rfl))
 f304 := Try.func91.trans (congrArg some (by kernel_rfl))
 f305 := Try.func92.trans (congrArg some (by kernel_rfl))
 f306 := Try.func93.trans (congrArg some (by kernel_rfl))
 f307 := Try.func94.trans (congrArg some (by kernel_rfl))
 f308 := Try.func95.trans (congrArg some (by kernel_rfl))
 f309 := Try.func96.trans (congrArg some (by kernel_rfl))
 f310 := Try.func97.trans (congrArg some (by kernel_rfl))
 f329 := Try.func104.trans (congrArg some (by kernel_rfl))
 f330 := Try.func105.trans (congrArg some (by kernel_rfl))
 f333 := Try.func103.trans (congrArg some (by kernel_rfl))
 f334 := Try.func106.trans (congrArg some (by kernel_rfl))
 f335 := Try.func107.trans (congrArg some (by kernel_rfl))
 f336 := Try.func108.trans (congrArg some (by kernel_rfl))
 f344 := Try.func112.trans (congrArg some (by kernel_rfl))
 t0 := Try.underlying0
 a0 := Try.isAgg0
 z0 := Try.sizeOf0
 v0 := Try.zeroValue0
 t3 := Try.underlying3
 a3 := Try.isAgg3
 z3 := Try.sizeOf3
 v3 := Try.zeroValue3
 t4 := Try.underlying4
 a4 := Try.isAgg4
 z4 := Try.sizeOf4
 v4 := Try.zeroValue4
 t5 := Try.underlying5
 a5 := Try.isAgg5
 z5 := Try.sizeOf5
 v5 := Try.zeroValue5
 t9 := Try.underlying9
 a9 := Try.isAgg9
 z9 := Try.sizeOf9
 v9 := Try.zeroValue9
 t31 := Try.underlying23
 a31 := Try.isAgg23
 z31 := Try.sizeOf23
 v31 := Try.zeroValue23
 t46 := Try.underlying87
 a46 := Try.isAgg87
 z46 := Try.sizeOf87
 v46 := Try.zeroValue87
 t51 := Try.underlying101
 a51 := Try.isAgg101
 z51 := Try.sizeOf101
 v51 := Try.zeroValue101
 t53 := Try.underlying103
 a53 := Try.isAgg103
 z53 := Try.sizeOf103
 v53 := Try.zeroValue103
 t131 := Try.underlying98
 a131 := Try.isAgg98
 z131 := Try.sizeOf98
 v131 := Try.zeroValue98
 t182 := Try.underlying92
 a182 := Try.isAgg92
 z182 := Try.sizeOf92
 v182 := Try.zeroValue92
 t183 := Try.underlying93
 a183 := Try.isAgg93
 z183 := Try.sizeOf93
 v183 := Try.zeroValue93
 t218 := Try.underlying106
 a218 := Try.isAgg106
 z218 := Try.sizeOf106
 v218 := Try.zeroValue106
 t222 := Try.underlying110
 a222 := Try.isAgg110
 z222 := Try.sizeOf110
 v222 := Try.zeroValue110
 t228 := Try.underlying113
 a228 := Try.isAgg113
 z228 := Try.sizeOf113
 v228 := Try.zeroValue113
 t229 := Try.underlying114
 a229 := Try.isAgg114
 z229 := Try.sizeOf114
 v229 := Try.zeroValue114 }
open Go.Sort Go.RowKit in
theorem lb_slices_Sort_string (blk off cap : Nat) (ss : List (List UInt8)) (w : World) (hH : Holds encStr w blk off ss.toArray) (hblk : blk < w.heap.size) (hsz : ss.length < 4611686018427387904) :
  Calls Try.prog 66 #[.slice (some ⟨blk,off,none⟩) ss.length cap] w fun e w' =>
   e = .returned (.tuple #[]) ∧ ∃ n os,w' = grow (putRow encStr (Sort.ahead w n) blk off (ss.mergeSort fun x y => decide (x ≤ y)).toArray) os := Any.slices_Sort_string lb_lays190 blk off cap ss w hH hblk hsz
def lb_lays194_ren : Go.Shelf.Ren := ⟨fun | 194 => 67 | n => n,fun | 31 => 23 | 9 => 9 | 3 => 3 | 4 => 4 | 0 => 0 | n => n,fun | n => n⟩
theorem lb_lays194 : Go.Proofs.Lays.n194 Try.prog lb_lays194_ren := {
 mixed := by kernel_rfl
 f194 := Try.func67.trans (congrArg some (by kernel_rfl))
 t0 := Try.underlying0
 a0 := Try.isAgg0
 z0 := Try.sizeOf0
 v0 := Try.zeroValue0
 t3 := Try.underlying3
 a3 := Try.isAgg3
 z3 := Try.sizeOf3
 v3 := Try.zeroValue3
 t4 := Try.underlying4
 a4 := Try.isAgg4
 z4 := Try.sizeOf4
 v4 := Try.zeroValue4
 t9 := Try.underlying9
 a9 := Try.isAgg9
 z9 := Try.sizeOf9
 v9 := Try.zeroValue9
 t31 := Try.underlying23
 a31 := Try.isAgg23
 z31 := Try.sizeOf23
 v31 := Try.zeroValue23 }
open Go.RowKit Go.Lib Go.Sort in
theorem lb_slices_Compact_string (blk off cap : Nat) (zs : List (List UInt8)) (w : World) (hH : Holds encStr w blk off zs.toArray) (hsz : zs.length ≤ 9223372036854775807) (hcap : zs.length ≤ cap) :
  Calls Try.prog 67 #[.slice (some ⟨blk,off,none⟩) zs.length cap] w fun e w' => e = .returned (.slice (some ⟨blk,off,none⟩) (Lib.compact zs).length cap) ∧ ∃ q,w' = putRow encStr (Sort.ahead w q) blk off (Lib.compact zs ++ List.replicate (zs.length - (Lib.compact zs).length) []).toArray := Any.slices_Compact_string lb_lays194 blk off cap zs w hH hsz hcap
open Go.RowKit Go.Lib Go.Sort in
theorem lb_slices_Compact_string_empty (a : Option Addr) (cap : Nat) (w : World) :
  Calls Try.prog 67 #[.slice a 0 cap] w fun e w' => e = .returned (.slice a 0 cap) ∧ w' = w := Any.slices_Compact_string_empty lb_lays194 a cap w
open Go.RowKit Go.Sort in
theorem lb_slices_Sort_string_none (p : Option Addr) (cap : Nat) (w : World) :
  Calls Try.prog 66 #[.slice p 0 cap] w fun e w' => e = .returned (.tuple #[]) ∧ w' = w := Any.slices_Sort_string_none lb_lays190 p cap w
end
open Go.RowKit Go.Shelf Go.Sort
attribute [local go_sem] Oper.semAt_some
theorem info_strT : (Try.prog.info? 9).map (fun i => (i.zero,i.size,i.bytes)) = some (some (.string ⟨#[]⟩),1,16) := by kernel_rfl
theorem news_one (w : World) (vs : Array Value) (t : TypeId) : ∀ j u,vs.toList[j]? = some u -> (w.alloc (.cells vs t)).cell? ((⟨w.heap.size,0,none⟩ : Addr).add j) = some u := fun j u h => by
 rw [addPlain,Nat.zero_add]
 exact alloc_at w vs t j u (by simpa using h)
theorem sort_grown {W : World} {g n : Nat} (d : Array (List UInt8)) : W.grownBy (putRow encStr (Sort.ahead W n) g 0 d) (some g) := by
 have := grownBy_sorted (w := W) (g := g) (n := n) (os := #[]) d
 rwa [grow_empty] at this
theorem strs_map (N : List ByteArray) : N.map Value.string = (N.map fun s => s.data.toList).map encStr := by
 rw [List.map_map]
 apply List.map_congr_left
 intro s _
 show Value.string s = encStr s.data.toList
 unfold encStr
 rw [show (⟨s.data.toList.toArray⟩ : ByteArray) = s from toB_data s]
theorem strsAt_put {W : World} {g m cap D : Nat} {o : Obj} {L : List ByteArray} (h : StrsAt W (.slice (some ⟨g,0,none⟩) m cap) L) (hD : D ≠ g) : StrsAt (W.putObj D o) (.slice (some ⟨g,0,none⟩) m cap) L := by
 obtain ⟨h1,h2,h3⟩ := h
 refine ⟨h1,h2,?_⟩
 rcases h3 with h3 | ⟨b,off,cap',e,hb,hc⟩
 ·exact .inl h3
 ·obtain ⟨⟨rfl,rfl⟩,h5,rfl⟩ : (g = b ∧ 0 = off) ∧ m = L.length ∧ cap = cap' := by simpa using e
  refine .inr ⟨g,0,cap,e,by simpa using hb,fun j hj => ?_⟩
  exact (World.cell?_of_block (w := W) (World.putObj_heap_other (fun e => hD e.symm))).trans (hc j hj)
theorem sort_call {W : World} {base g cap : Nat} {ss : List (List UInt8)} (h : W.ownsRow base 9 1 (.slice (some ⟨g,0,none⟩) ss.length cap) ss.length (ss.map encStr)) (hn : ss.length ≤ 1000000) :
  Calls Try.prog 66 #[.slice (some ⟨g,0,none⟩) ss.length cap] W fun e W1 => e = .returned (.tuple #[]) ∧ W.grownBy W1 (some g) ∧
   W1.ownsRow base 9 1 (.slice (some ⟨g,0,none⟩) ss.length cap) ss.length ((ss.mergeSort fun x y => decide (x ≤ y)).map encStr) := by
 rcases h.2 with ⟨e,_⟩ | ⟨g',cap',cur,e,hbase,hb,h1,h2,h3,h4⟩
 ·cases e
 obtain ⟨rfl,rfl⟩ : g = g' ∧ cap = cap' := by simpa using e
 refine (lb_slices_Sort_string g 0 cap ss W (holds_of_block hb (by simpa using h4)) (Array.getElem?_eq_some_iff.1 hb).1 (by omega)).mono ?_
 rintro e W1 ⟨rfl,n,os,rfl⟩
 exact ⟨rfl,grownBy_sorted _,ownsRow_sorted (by simp) hbase hb h1 h2 h3⟩
theorem compact_call {W : World} {base g cap : Nat} {zs : List (List UInt8)} (h : W.ownsRow base 9 1 (.slice (some ⟨g,0,none⟩) zs.length cap) zs.length (zs.map encStr)) (hn : zs.length ≤ 1000000) (hsz : ∀ s ∈ zs,s.length ≤ maxLen) :
  Calls Try.prog 67 #[.slice (some ⟨g,0,none⟩) zs.length cap] W fun e W1 => e = .returned (.slice (some ⟨g,0,none⟩) (Lib.compact zs).length cap) ∧ W.grownBy W1 (some g) ∧
   StrsAt W1 (.slice (some ⟨g,0,none⟩) (Lib.compact zs).length cap) ((Lib.compact zs).map toB) := by
 rcases h.2 with ⟨e,_⟩ | ⟨g',cap',cur,e,hbase,hb,h1,h2,h3,h4⟩
 ·cases e
 obtain ⟨rfl,rfl⟩ : g = g' ∧ cap = cap' := by simpa using e
 have hg := (Array.getElem?_eq_some_iff.1 hb).1
 have hle := Lib.compact_length_le zs
 refine (lb_slices_Compact_string g 0 cap zs W (holds_of_block hb (by simpa using h4)) (by omega) h1).mono ?_
 rintro e W1 ⟨rfl,q,hw⟩
 have hX : (Lib.compact zs ++ List.replicate (zs.length - (Lib.compact zs).length) []).length = zs.length := by simp;omega
 have o1 := ownsRow_sorted (n := q) (os := #[]) hX hbase hb h1 h2 h3
 rw [grow_empty,← hw] at o1
 have hg1 : W.grownBy W1 (some g) := by rw [hw];exact sort_grown _
 refine ⟨rfl,hg1,fun s hs => ?_,by simp;unfold maxLen;omega,.inr ⟨g,0,cap,by rw [List.length_map],Nat.lt_of_lt_of_le hg hg1.size,fun j hj => ?_⟩⟩
 ·obtain ⟨l,hl,rfl⟩ := List.mem_map.1 hs
  exact hsz l ((compact_mem zs l).1 hl)
 ·have hj' : j < (Lib.compact zs).length := by simpa using hj
  rw [Nat.zero_add,o1.cellAt j (by omega),stAt_get hj,List.getElem?_map,List.getElem?_append_left hj',List.getElem?_eq_getElem hj',List.getElem_map]
  try rfl
def NewRow (w : World) (v : Value) : Prop := ∀ a n c,v = .slice a n c -> n ≤ c ∧ c ≤ maxLen ∧ ∀ x,a = some x -> w.heap.size ≤ x.block
attribute [local go_sem] Oper.semAt_some
variable {G : Nat -> Nat -> Prop}
theorem distinct_any (base : Nat) (N : List ByteArray) (v : Value) (W : World) (hbs : base ≤ W.heap.size) (oV : W.ownsRow base 9 1 v N.length (N.map Value.string)) (hlen : N.length ≤ 1000000) (hsz1 : ∀ s ∈ N,s.size ≤ maxLen) :
  Calls Try.prog 41 #[v] W fun e W' => ∃ v' L,e = .returned v' ∧ Below base W W' ∧ StrsAt W' v' L ∧ VarsIs N L ∧ L.length ≤ 1000000 ∧ (∀ a n c,v' = .slice a n c -> n ≤ c ∧ c ≤ maxLen ∧ ∀ x,a = some x -> base ≤ x.block) ∧
   (∀ D o,W.heap[D]? = some o -> o.isCells = false -> W'.heap[D]? = some o ∧ ∀ o',StrsAt (W'.putObj D o') v' L) := by
 have hV := vars_sorted N
 have HZ : ∀ s ∈ (N.map fun s => s.data.toList).mergeSort (fun x y => decide (x ≤ y)),s.length ≤ maxLen := fun s hs => by
  obtain ⟨q,hq,rfl⟩ := List.mem_map.1 ((List.mergeSort_perm _ _).subset hs)
  exact hsz1 q hq
 have HV := Asd.mk hV
 rw [strs_map] at oV
 have hl1 : N.length = (N.map fun s => s.data.toList).length := by simp
 rw [hl1] at oV hlen
 obtain ⟨ss,hss⟩ : ∃ ss,ss = N.map fun s => s.data.toList := ⟨_,rfl⟩
 rw [← hss] at oV hlen HV HZ
 clear hl1 hss hV hsz1
 rcases oV.2 with ⟨rfl,h0⟩ | ⟨g,cap,cur,rfl,hbase,hb,h1,h2,h3,h4⟩
 ·obtain rfl : ss = [] := List.length_eq_zero_iff.1 h0
  go_enter Try.func41,Try.ntmps41
  go_wp2_with (first
      | (go_at_call 66; refine (lb_slices_Sort_string_none none 0 W).mono ?_; rintro e W1 ⟨rfl, rfl⟩)
      | (go_at_call 67; refine (lb_slices_Compact_string_empty none 0 W1).mono ?_; rintro e W2 ⟨rfl, rfl⟩))
  go_ret
  exact ⟨_,[],rfl,Below.refl _ _,⟨fun s h => (by simp at h),by simp,.inl ⟨none,0,rfl,rfl⟩⟩,by simpa [Lib.compact,Lib.compactUpTo] using HV.out,by simp,fun a n c e => by cases e;exact ⟨Nat.le_refl _,Nat.zero_le _,fun x hx => by cases hx⟩,
   fun D o hD hc => ⟨hD,fun o' => ⟨fun s h => (by simp at h),by simp,.inl ⟨none,0,rfl,rfl⟩⟩⟩⟩
 ·have HS := Asd.mk (sort_call oV hlen)
  have HOV := Asd.mk oV
  have hzl : (ss.mergeSort fun x y => decide (x ≤ y)).length = ss.length := List.length_mergeSort _
  have HNR := Asd.mk (And.intro h1 (And.intro h2 hbase))
  have HB := Asd.mk hb
  clear h4 oV
  go_enter Try.func41,Try.ntmps41
  go_wp2_with (first
      | (go_at_call 66; refine HS.out.mono ?_; clear HS; rintro e W1 ⟨rfl, g1, o1⟩; rw [← hzl] at o1; have HC := Asd.mk (compact_call o1 (by rw [hzl]; exact hlen) HZ); rw [hzl] at HC; clear o1)
      | (go_at_call 67; refine HC.out.mono ?_; clear HC; rintro e W2 ⟨rfl, g2, o2⟩))
  go_ret
  have hB2 := ((Below.refl base W).grown g1 hbs (fun j e => by cases e;exact hbase)).grown g2 (Nat.le_trans hbs g1.size) (fun j e => by cases e;exact hbase)
  refine ⟨_,_,rfl,hB2,o2,HV.out,?_,?_,fun D o hD hc => ?_⟩
  ·rw [List.length_map]
   have := Lib.compact_length_le (ss.mergeSort fun x y => decide (x ≤ y))
   omega
  ·exact fun a n c e => by
    obtain ⟨rfl,rfl,rfl⟩ : some ⟨g,0,none⟩ = a ∧ (Lib.compact (ss.mergeSort fun x y => decide (x ≤ y))).length = n ∧ cap = c := by simpa using e
    obtain ⟨n1,n2,n3⟩ := HNR.out
    have := Lib.compact_length_le (ss.mergeSort fun x y => decide (x ≤ y))
    exact ⟨by omega,n2,fun x hx => by cases hx;exact n3⟩
  ·have hgD : D ≠ g := fun e => by
    rw [e,HB.out] at hD
    cases hD
    cases hc
   have hD1 := (g1.block D (Array.getElem?_eq_some_iff.1 hD).1 (by simpa using hgD)).trans hD
   exact ⟨(g2.block D (Array.getElem?_eq_some_iff.1 hD1).1 (by simpa using hgD)).trans hD1,fun o' => strsAt_put o2 hgD⟩
def Ex7.knd (t : Ex7) : Int := match t with | .mk k _ _ _ _ _ _ => k
def Ex7.isCall (t : Ex7) : Bool := t.knd == 13
def Ex7.nm (t : Ex7) : ByteArray := match t with | .mk _ _ nm _ _ _ _ => nm
mutual
theorem calls_walk : ∀ (t : Ex7) (d : Int),((walkE d t).filter (fun p => p.2.isCall)).map (fun p => p.2.nm) = callN t
 | .mk k n nm hs ts ls ks,d => by
  simp only [walkE,callN,List.filter_cons]
  rw [← callsL_walk ks (wrap64 (d + 1))]
  by_cases hk : k = 13
  ·simp [Ex7.isCall,Ex7.knd,Ex7.nm,hk]
  ·simp [Ex7.isCall,Ex7.knd,hk]
theorem callsL_walk : ∀ (ks : List Ex7) (d : Int),((walkEL d ks).filter (fun p => p.2.isCall)).map (fun p => p.2.nm) = callNL ks
 | [],d => rfl
 | t :: r,d => by
  simp only [walkEL,callNL,List.filter_append,List.map_append]
  rw [calls_walk t,callsL_walk r]
end
def enames {w0 : World} (xs : List (Ne G w0)) : List ByteArray := (xs.filter (fun x => x.t.isCall)).map (fun x => x.t.nm)
theorem enames_snoc {w0 : World} (xs : List (Ne G w0)) (x : Ne G w0) : enames (xs ++ [x]) = enames xs ++ (if x.t.isCall = true then [x.t.nm] else []) := by
 unfold enames
 rw [List.filter_append,List.map_append]
 by_cases h : x.t.isCall = true <;> simp [h]
theorem enames_keys {w0 : World} {xs : List (Ne G w0)} {t : Ex7} (h : xs.map Ne.key = walkE 1 t) : enames xs = callN t := by
 rw [← calls_walk t 1,← h,List.filter_map,List.map_map]
 try rfl
theorem enames_le {w0 : World} (xs : List (Ne G w0)) : (enames xs).length ≤ xs.length := by
 unfold enames
 rw [List.length_map]
 exact List.length_filter_le _ _
theorem enames_size {w0 : World} {xs : List (Ne G w0)} {s : ByteArray} (h : s ∈ enames xs) : s.size ≤ maxLen := by
 obtain ⟨x,_,rfl⟩ := List.mem_map.1 h
 obtain ⟨d,⟨k,n,nm,hs,ts,ls,ks⟩,u0,u1,u2,u3,u4,u5,u6,hu⟩ := x
 exact hu.1.1
theorem kp_appendE {W w1 : World} {n0 B k : Nat} {v u : Value} {xs : List Value} {tmp : Obj} (hv : Boxed W B 23 v) (hrow : W.ownsRow n0 9 1 v k xs) (hgrow : (W.alloc tmp).grownBy w1 v.ownBlock) (hb : Below n0 W (w1.setCell ⟨B,0,none⟩ u)) :
  KpE n0 (fun _ => False) W (w1.setCell ⟨B,0,none⟩ u) := by
 refine ⟨hb,fun j vs fr hj _ => ?_⟩
 have hjl : j < W.heap.size := (Array.getElem?_eq_some_iff.1 hj).1
 have h1 : j ≠ B := fun e => by
  subst e
  rw [show W.heap[j]? = _ from hv] at hj
  simp at hj
 have h2 : some j ≠ v.ownBlock := fun e => by
  rcases hrow.2 with ⟨rfl,_⟩ | ⟨g,cap,cur,rfl,_,hg,_⟩
  ·cases e
  ·have e : j = g := by simpa [Value.ownBlock] using e
   subst e
   rw [hg] at hj
   simp at hj
 rw [Below.heap_setCell _ _ _ _ (by exact h1),hgrow.block j (by simp;omega) h2,Below.heap_alloc _ _ _ hjl]
 exact hj
theorem Box7.kind {W : World} {B : Nat} {w0 : World} {x : Ne G w0} (h : Box7 W B x) : W.cell? ⟨B,0,none⟩ = some (.int .i64 x.t.knd) := by
 obtain ⟨d,⟨k,n,nm,hs,ts,ls,ks⟩,u0,u1,u2,u3,u4,u5,u6,hu⟩ := x
 have h1 := box_cell (i := 0) h rfl
 obtain ⟨_,_,_,_,_,_,rfl,_⟩ := hu.form
 exact h1
theorem Box7.name {W : World} {B : Nat} {w0 : World} {x : Ne G w0} (h : Box7 W B x) : W.cell? ⟨B,2,none⟩ = some (.string x.t.nm) := by
 obtain ⟨d,⟨k,n,nm,hs,ts,ls,ks⟩,u0,u1,u2,u3,u4,u5,u6,hu⟩ := x
 have h1 := box_cell (i := 2) h rfl
 obtain ⟨_,_,_,_,_,_,_,_,rfl,_⟩ := hu.form
 exact h1
theorem pecalls_any (t : Ex7) (v0 v1 v2 v3 v4 v5 v6 : Value) (w : World) (hT : ExIn G w t v0 v1 v2 v3 v4 v5 v6) :
  Calls Try.prog 22 #[.agg #[v0,v1,v2,v3,v4,v5,v6]] w fun e w' => ∃ v L,e = .returned v ∧ Below w.heap.size w w' ∧ StrsAt w' v L ∧ VarsIs (callN t) L ∧ L.length ≤ 1000000 ∧ NewRow w v := by
 refine (callsIn_wide (n := 8)).1 ?_
 have hf1 : Fence.wide.fn 32 := trivial
 have HT := Asd.mk hT
 clear hT
 refine callsIn_of_wp_marks Try.func22 rfl trivial ?_ rfl
 simp only [Try.ntmps22,List.size_toArray,List.length_cons,List.length_nil,Nat.reduceAdd,Nat.reduceSub,Array.replicate_succ,Array.replicate_zero,List.push_toArray,List.append_toArray,List.nil_append,List.cons_append]
 gi_wp2_with (gi_at_call 32;refine (callsIn_wide.2 (exprs_any v0 v1 v2 v3 v4 v5 v6 _)).mono ?_;rintro e w' ⟨rfl,rfl⟩)
 have b1 := boxed_exprW (Boxed.new (w.alloc (.cells #[v0,v1,v2,v3,v4,v5,v6] 26)) 23 (.slice none 0 0)) v0 v1 v2 v3 v4 v5 v6
 have bA := exprW_root ((w.alloc (.cells #[v0,v1,v2,v3,v4,v5,v6] 26)).alloc (.cells #[.slice none 0 0] 23)) v0 v1 v2 v3 v4 v5 v6
 have bP := exprW_parts ((w.alloc (.cells #[v0,v1,v2,v3,v4,v5,v6] 26)).alloc (.cells #[.slice none 0 0] 23)) v0 v1 v2 v3 v4 v5 v6
 have hB0 : Below w.heap.size w (exprW ((w.alloc (.cells #[v0,v1,v2,v3,v4,v5,v6] 26)).alloc (.cells #[.slice none 0 0] 23)) v0 v1 v2 v3 v4 v5 v6) := below_exprW (((Below.refl _ w).alloc (by first | omega | (simp only [World.size_alloc] <;> omega)) _).alloc (by first | omega | (simp only [World.size_alloc] <;> omega)) _) (by simp only [World.size_alloc] <;> omega) v0 v1 v2 v3 v4 v5 v6
 have hsz : (exprW ((w.alloc (.cells #[v0,v1,v2,v3,v4,v5,v6] 26)).alloc (.cells #[.slice none 0 0] 23)) v0 v1 v2 v3 v4 v5 v6).heap.size = w.heap.size + 5 := by rw [exprW_size];simp only [World.size_alloc] <;> omega
 simp only [World.size_alloc] at b1 bA bP
 obtain ⟨W0,hW0⟩ : ∃ W0,exprW ((w.alloc (.cells #[v0,v1,v2,v3,v4,v5,v6] 26)).alloc (.cells #[.slice none 0 0] 23)) v0 v1 v2 v3 v4 v5 v6 = W0 := ⟨_,rfl⟩
 rw [hW0] at b1 bA bP hB0 hsz ⊢
 clear hW0
 obtain ⟨i0,hi,hz0,hz1,hz2⟩ := info_parts info_strT
 refine wpIn_rangeFunc_ownH rfl (by omega) (gf := 68) (lb := #[.pointer (some ⟨w.heap.size + 1 + 1 + 1,0,none⟩),.pointer (some ⟨w.heap.size + 1 + 1 + 1 + 1,0,none⟩)]) rfl trivial (enters_of Try.func68 (by kernel_rfl) rfl)
  (exprs_stops 7 (w.heap.size + 1 + 1 + 1) (w.heap.size + 1 + 1 + 1 + 1) (w.heap.size + 5) (fun _ => False) (fun k h => h.elim) w W0 t v0 v1 v2 v3 v4 v5 v6 HT.out hB0 (by omega) bA bP) kpE_t (kpE_b (by omega)) (Below.refl _ _) (fun _ => rfl)
  (fun pre W => (∃ v,Boxed W (w.heap.size + 1) 23 v ∧ W.ownsRow w.heap.size 9 1 v (enames pre).length ((enames pre).map Value.string) ∧ True) ∧ Below w.heap.size w W)
  (fun _ _ _ => False)
  (OwnFrom.and (Own.from (holdsRow_own w.heap.size (w.heap.size + 1) 23 9 1 (fun pre => (enames pre).length) (fun pre => (enames pre).map Value.string) (fun _ _ => True)) _) (ownFrom_below (Nat.le_refl _) (by omega)))
  (fun _ _ _ _ _ hs _ _ => hs)
  ⟨⟨_,b1,World.ownsRow_nil _ _ _ _,trivial⟩,hB0⟩
  (fun x a' W => ∃ Bx,Box7 W Bx x ∧ a' = { tmps := #[.agg #[v0,v1,v2,v3,v4,v5,v6],.pointer (some ⟨w.heap.size,0,none⟩),.slice none 0 0,.pointer (some ⟨w.heap.size + 1,0,none⟩),undef,.pointer (some ⟨Bx,0,none⟩),.agg #[v0,v1,v2,v3,v4,v5,v6],.func (.func 68) #[] #[.pointer (some ⟨w.heap.size + 1 + 1 + 1,0,none⟩),.pointer (some ⟨w.heap.size + 1 + 1 + 1 + 1,0,none⟩)],.int .i64 x.d,.agg #[x.v0,x.v1,x.v2,x.v3,x.v4,x.v5,x.v6],undef,undef,undef,undef,undef,undef,undef,undef,undef,undef],defers := [] })
  (fun x a' _ X Y row hs hg hr => by
   obtain ⟨Bx,h1,h2⟩ := hs
   exact ⟨Bx,box7_own Bx x () X Y row h1 hg (fun r e => (hr r e).2),h2⟩)
  ?assign ?body ?done ?stop
 case assign =>
  rintro l pre x W K ⟨⟨v,bV,oV,_⟩,hB1⟩ hK
  have hW := hB1.size
  obtain ⟨d,t',u0,u1,u2,u3,u4,u5,u6,hu⟩ := x
  obtain ⟨k',n',nm',hs',ts',ls',ks'⟩ := t'
  obtain ⟨a4',c4x,a5',c5x,a6',c6x,rfl,rfl,rfl,rfl,rfl,rfl,rfl,_⟩ := hu.form
  simp only [Ne.vals,zip2]
  gi_wp2
  exact hK _ _ ((KeepsOthers.alloc _ _).from _) (KpE.of_below hW ((Below.refl _ _).alloc (Nat.le_refl _) _)) ⟨⟨v,bV.alloc _,oV.alloc _,trivial⟩,hB1.alloc hB1.size _⟩ ⟨W.heap.size,World.alloc_heap_new W _,rfl⟩
 case body =>
  rintro l pre x a' W hl hr ⟨⟨v,bV,oV,_⟩,hB1⟩ ⟨Bx,bX,rfl⟩ hlt
  have cX := bX.kind
  have cN := bX.name
  have cV := bV.cell
  have fV := bV.frozen
  have hlen : (enames pre).length ≤ 1000000 := by
   have h1 := Nat.le_trans (count_nodes t) HT.out.2.1
   have h2 := enames_le pre
   rw [walkE_len] at hlt
   omega
  have hsW := hB1.size
  have HF : Asd (enames (pre ++ [x]) = enames pre ++ (if x.t.isCall = true then [x.t.nm] else [])) := ⟨enames_snoc pre x⟩
  rcases Bool.eq_false_or_eq_true (x.t.knd == 13) with hq | hq
  ·have hF : Asd (enames (pre ++ [x]) = enames pre ++ [x.t.nm]) := ⟨by rw [HF.out,if_pos (show x.t.isCall = true from hq)]⟩
   gi_wp2_with (gi_at_builtin;refine wpListIn_append_own _ rfl _ _ 23 rfl w.heap.size 9 i0 (.string ⟨#[]⟩) 1 16 Try.underlying23 hi hz0 hz1 hz2 rfl (by decide) _ _ _ rfl (oV.alloc _) ⟨W.heap.size,0,none⟩ 1 1 [.string x.t.nm] rfl rfl (news_one W #[.string x.t.nm] _) (by intro u hu;simp at hu;subst hu;rfl) (by unfold maxLen;omega) (by omega) (by simp;omega) ?_;intro v' w1 hown' hgrow _;obtain ⟨g',cap',rfl⟩ := ownsRow_succ hown';obtain ⟨hv1,hv2,hr2,hk2,hb2⟩ := bV.appended (by decide) oV hB1.size (by omega) hown' hgrow;have hkp := Asd.mk (kp_appendE bV oV hgrow hb2);have hc1 := hv1.cell;have hf1 := hv1.frozen)
   refine ⟨hk2.from _,hkp.out,⟨⟨_,hv2,?_,trivial⟩,hB1.trans hb2⟩⟩
   rw [hF.out,List.length_append,List.map_append]
   exact hr2
  ·have hF : Asd (enames (pre ++ [x]) = enames pre) := ⟨by rw [HF.out,if_neg (by rw [show x.t.isCall = false from hq];simp),List.append_nil]⟩
   gi_wp2
   refine ⟨KeepsFrom.refl _ _,KpE.refl _ _ _,⟨⟨v,bV,?_,trivial⟩,hB1⟩⟩
   rw [hF.out]
   exact oV
 case done =>
  rintro D xs W hD hxs ⟨⟨v,bV,oV,_⟩,hB1⟩ hK
  have hF := enames_keys hxs
  have hsz1 : ∀ s ∈ enames xs,s.size ≤ maxLen := fun s hs => enames_size hs
  have hlen : (enames xs).length ≤ 1000000 := by
   have h1 := Nat.le_trans (count_nodes t) HT.out.2.1
   have h2 := enames_le xs
   have h3 := lenE_keys hxs
   omega
  rw [hF] at oV hsz1 hlen
  have cV := bV.cell
  have hf2 : Fence.wide.fn 41 := trivial
  have HD := Asd.mk (distinct_any w.heap.size (callN t) v W hB1.size oV hlen hsz1)
  gi_wp2_with (gi_at_call 41;refine (callsIn_wide.2 HD.out).mono ?_;clear HD;rintro e W2 ⟨v',L,rfl,hb2,hs2,hv2,hl2,hn2,hd2⟩)
  have hK2 := (hd2 D _ hK rfl).1
  refine ⟨by simp,.inl ⟨_,_,rfl,run_takeDeferred hK2,?_⟩⟩
  refine ⟨_,results_tmp rfl _ _ _,_,L,rfl,(hB1.trans hb2).trans (belowK_b (w := w) (Nat.le_refl _) W2 D _ _ (by omega) hK2 rfl rfl),(hd2 D _ hK rfl).2 _,hv2,hl2,?_⟩
  exact fun a n c e => hn2 a n c e
 case stop =>
  rintro D c pre W _ _ h _
  exact h.elim
theorem cp_row {k : FuncId} {ds : List D} {L : List ByteArray} (hc : Callable (TT ()) k) (h : ∀ (S : Nat -> Nat -> Prop) (w : World) (args : List Value),Okay S w -> Pv.RdL (bare S) w ds args -> Calls (TT ()) k args.toArray w fun e w' => ∃ v,e = .returned v ∧ Below w.heap.size w w' ∧ StrsAt w' v L ∧ NewRow w v) : CP (TT ()) k ds (· = .sl none 1 (L.map strD)) := by
 refine ⟨hc,fun S w args hS r => (h S w args hS r).mono ?_⟩
 rintro e w' ⟨v,rfl,hb,hs,hnew⟩
 refine ⟨v,fun b o => S b o ∨ (w.heap.size ≤ b ∧ b < w'.heap.size),_,rfl,rfl,hb,fun _ _ h => .inl h,fun b o h => ?_,?_⟩
 ·rcases h with h | h
  ·exact ⟨Nat.lt_of_lt_of_le (hS b o h) hb.size,fun _ => h⟩
  ·exact ⟨h.2,fun hlt => absurd hlt (by omega)⟩
 ·obtain ⟨hs1,hm,h⟩ := hs
  rcases h with ⟨a,cap,rfl,h0⟩ | ⟨b,off,cap,rfl,hbk,hc⟩
  ·obtain ⟨n1,n2,_⟩ := hnew _ _ _ rfl
   rw [h0]
   exact ⟨⟨a,cap,by simp,by simp,n2⟩,fun h0 => absurd h0 (by simp),fun id e => by cases e⟩
  ·obtain ⟨n1,n2,n3⟩ := hnew _ _ _ rfl
   refine ⟨⟨some ⟨b,off,none⟩,cap,by simp,by simpa using n1,n2⟩,fun h0 => ⟨b,off,cap,by simp,fun i hi => .inr ⟨n3 _ rfl,hbk⟩,?_⟩,fun id e => by cases e⟩
   refine RdE.mk fun i d hd => ?_
   rw [List.getElem?_map,Option.map_eq_some_iff] at hd
   obtain ⟨s,h1,rfl⟩ := hd
   obtain ⟨hlt,h2⟩ := List.getElem?_eq_some_iff.1 h1
   refine ⟨.string s,rfl,rfl,fun c hc => by simp [Value.cells] at hc;subst hc;rfl,fun j hj => ?_⟩
   have : j = 0 := by simp [Value.cells] at hj;omega
   subst this
   rw [Nat.mul_one,Nat.add_zero,hc i hlt,stAt_get hlt,h2]
   try rfl
end Go.Proofs.Ytglefhgcfijiaaa

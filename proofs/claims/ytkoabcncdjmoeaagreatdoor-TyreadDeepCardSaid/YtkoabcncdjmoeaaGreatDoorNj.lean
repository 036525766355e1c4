/- strings.Builder as boxes see it: copyCheck and String walked, WriteString and the collector's closures by the open run. -/
import Derived.Shelf.Strings.Builder1
import Derived.Laws.Externs
import Derived.Test.YtkoabcncdjmoeaaGreatDoorMe
set_option linter.unusedSimpArgs false
set_option linter.unusedVariables false
set_option maxRecDepth 1000000
set_option maxHeartbeats 40000000
namespace Go.Proofs.YtkoabcncdjmoeaaGreatDoor
open Go.RowKit Pv
abbrev byteD (b : UInt8) : D := .raw (.int .u8 b.toNat)
def bytesD (S : List UInt8) : List D := S.map byteD
theorem bytesD_len (S : List UInt8) : (bytesD S).length = S.length := List.length_map ..
def headD : Bool -> D
 | true => .bx 0 0
 | false => .raw (.pointer none)
def Bld (u : Bool) (S : List UInt8) : H := [.box 99 [headD u,.sl (some 1) 1 (bytesD S)],.log 5 1 S.length]
theorem cell_freeze (w : World) (a p : Addr) (n : Nat) : (w.freeze a n).cell? p = w.cell? p := by
 unfold World.freeze
 split
 ·rfl
 ·unfold World.cell?
  by_cases e : a.block = p.block
  ·simp only [Array.getElem?_modify,if_pos e]
   cases h2 : w.heap[p.block]? with
   | none => rfl
   | some o => cases o <;> rfl
  ·simp only [Array.getElem?_modify,if_neg e]
theorem size_freeze (w : World) (a : Addr) (n : Nat) : (w.freeze a n).heap.size = w.heap.size := by
 unfold World.freeze
 split
 ·rfl
 ·simp
theorem other_freeze (w : World) (a : Addr) (n : Nat) {k : Nat} (h : k ≠ a.block) : (w.freeze a n).heap[k]? = w.heap[k]? := by
 unfold World.freeze
 split
 ·rfl
 ·simp only [Array.getElem?_modify]
  rw [if_neg (fun e => h e.symm)]
theorem bl_end {C : Cx} {h : H} {w w' : World} (s : Sim C h w) (hos : w'.os = w.os) (ht : w'.tape = w.tape) (ho : w'.output = w.output) (hsz : w.heap.size ≤ w'.heap.size) (hc : ∀ b o,b < w.heap.size -> w'.cell? ⟨b,o,none⟩ = w.cell? ⟨b,o,none⟩)
  (hf : ∀ b,b < w.heap.size -> (∀ id,¬ C.blk id b) -> w'.heap[b]? = w.heap[b]?) : Fw C w C w' ∧ Sim C (List.replicate h.length .dead) w' := by
 have f : Fw C w C w' := ⟨⟨hos,ht,ho,hsz,fun _ _ h => h,fun b o hs => hc b o (s.S b o hs),fun _ _ h => h,fun _ u h => ⟨u,h,.inl rfl⟩⟩,hf,fun id _ h _ => ⟨id,h⟩,fun _ _ h _ => .inl h⟩
 refine ⟨f,
  ⟨s.S.mono f.toEv fun b o hs => Nat.lt_of_lt_of_le (s.S b o hs) hsz,fun id t ds e => ?_,fun id e sz n e' => ?_,fun id b hb => Nat.lt_of_lt_of_le (s.lt id b hb) hsz,fun id b hb => ?_,fun id u hu => ?_,s.inj,s.one,fun id b P e => ?_⟩⟩
 ·rw [List.getElem?_replicate] at e
  split at e <;> cases e
 ·rw [List.getElem?_replicate] at e'
  split at e' <;> cases e'
 ·rw [List.length_replicate];exact s.idb id b hb
 ·rw [List.length_replicate];exact s.idl id u hu
 ·rw [List.getElem?_replicate] at e
  split at e <;> cases e
theorem cc_fresh (b : Nat) (v : Value) (w : World) (hbk : w.heap[b]? = some (.cells #[.pointer none,v] 99 (0,0))) :
  Calls Tryz.prog 85 #[.pointer (some ⟨b,0,none⟩)] w fun e w' => e = .returned (.tuple #[]) ∧ w' = w.setRow b #[.pointer (some ⟨b,0,none⟩),v] := by
 obtain ⟨j,hj,hjs⟩ := Option.map_eq_some_iff.1 (show (Tryz.prog.info? 99).map (·.size) = some 2 by kernel_rfl)
 have h0 : w.cell? ⟨b,0,none⟩ = some (.pointer none) := by rw [Lib.cell_of_heap hbk];rfl
 have hfz : w.frozen? ⟨b,0,none⟩ = false := Lib.frozen_of_heap hbk 0
 have hsh : w.shape? b = some (99,2) := by simp [World.shape?,hbk]
 have H := Asd.mk hbk
 clear hbk
 go_enter Tryz.func85,Tryz.ntmps85
 go_wp2_with fail
 rw [Lib.run_to_unsafe w ⟨b,0,none⟩ Tryz.underlying96 Tryz.underlying119 hj (by rw [hjs];decide) hsh (Nat.zero_lt_succ 1)]
 simp only [Result.andThen]
 rw [Oper.upon_value]
 go_wp2_with fail
 rw [run_callFunc_extern Tryz.func110 (by kernel_rfl) (by kernel_rfl) (by kernel_rfl) (e := Extern.AbiNoEscape.same) (by kernel_rfl)]
 rw [Lib.run_noEscape]
 simp only [Result.andThen]
 rw [Oper.upon_value]
 go_wp2_with fail
 rw [Lib.run_from_unsafe w ⟨b,0,none⟩ Tryz.underlying119 Tryz.underlying96 hj hsh (by kernel_rfl)]
 simp only [Result.andThen]
 rw [Oper.upon_value]
 go_wp2_with fail
 go_end0
 exact ⟨rfl,(setCell_eq_setRow w b 0 _ _ (0,0) _ H.out).trans rfl⟩
theorem cc_used (b : Nat) (v : Value) (w : World) (hbk : w.heap[b]? = some (.cells #[.pointer (some ⟨b,0,none⟩),v] 99 (0,0))) :
  Calls Tryz.prog 85 #[.pointer (some ⟨b,0,none⟩)] w fun e w' => e = .returned (.tuple #[]) ∧ w' = w := by
 obtain ⟨j,hj,hjs⟩ := Option.map_eq_some_iff.1 (show (Tryz.prog.info? 99).map (·.size) = some 2 by kernel_rfl)
 have h0 : w.cell? ⟨b,0,none⟩ = some (.pointer (some ⟨b,0,none⟩)) := by rw [Lib.cell_of_heap hbk];rfl
 clear hbk
 go_enter Tryz.func85,Tryz.ntmps85
 go_wp2_with fail
 rw [Lib.run_neq_ptr_same w _ Tryz.underlying96 hj]
 go_wp2_with fail
 go_end0
 exact ⟨rfl,rfl⟩
def ptrV (b : Nat) : Bool -> Value
 | true => .pointer (some ⟨b,0,none⟩)
 | false => .pointer none
theorem bld_at {C : Cx} {w : World} {u : Bool} {S : List UInt8} (s : Sim C (Bld u S) w) : ∃ b v,C.bx 0 = some b ∧ w.heap[b]? = some (.cells #[ptrV b u,v] 99 (0,0)) ∧ Rd C w (.sl (some 1) 1 (bytesD S)) v ∧ v.oneCell' = true ∧ ∀ o,¬ C.S b o := by
 obtain ⟨b,vs,h1,h2,h3,h4,h5⟩ := s.box 0 _ _ rfl
 obtain ⟨v0,rest,e0,r0,v,rest2,e1,r1,e2⟩ := h3
 simp only [RdL] at e2
 subst e2 e1
 have hvs : vs = #[v0,v] := by rw [← Array.toArray_toList (xs := vs),e0]
 subst hvs
 refine ⟨b,v,h1,?_,r1,h4 v (by simp),h5⟩
 cases u with
 | true =>
  obtain ⟨b',hb',rfl⟩ := r0
  rw [h1] at hb'
  cases hb'
  exact h2
 | false =>
  simp only [headD,Rd] at r0
  subst r0
  exact h2
theorem cc_cw (u : Bool) (S : List UInt8) : CW (TT ()) 85 [.bx 0 0] (Bld u S) fun d h' => d = .tup [] ∧ h' = Bld true S := by
 refine ⟨callable_at Tryz.func85 (by kernel_rfl) rfl,fun C w args s r => ?_⟩
 obtain ⟨v0,rfl,b',hb',rfl⟩ := rdL_one r
 obtain ⟨b,v,hb,hbk,hv,h1,hS⟩ := bld_at s
 have eb := Option.some.inj (hb.symm.trans hb')
 rw [← eb]
 clear hb' eb
 cases u with
 | false =>
  refine (cc_fresh b v w hbk).mono ?_
  rintro e w' ⟨rfl,rfl⟩
  obtain ⟨f,s'⟩ := s.store (id := 0) rfl hb hbk hS (es := [.bx 0 0,.sl (some 1) 1 (bytesD S)]) (us := #[.pointer (some ⟨b,0,none⟩),v]) ⟨_,_,rfl,⟨b,hb,rfl⟩,v,[],rfl,hv,rfl⟩ (by intro x hx;simp at hx;rcases hx with rfl | rfl <;> first | exact rfl | exact h1)
  exact ⟨_,C,.tup [],_,rfl,⟨rfl,rfl⟩,f,s',⟨[],rfl,rfl⟩⟩
 | true =>
  refine (cc_used b v w hbk).mono ?_
  rintro e w' ⟨rfl,rfl⟩
  exact ⟨_,C,.tup [],_,rfl,⟨rfl,rfl⟩,Fw.refl C _,s,⟨[],rfl,rfl⟩⟩
theorem bs_nil (b : Nat) (p : Value) (w : World) (hbk : w.heap[b]? = some (.cells #[p,.slice none 0 0] 99 (0,0))) :
  Calls Tryz.prog 57 #[.pointer (some ⟨b,0,none⟩)] w fun e w' => e = .returned (.string ⟨#[]⟩) ∧ w' = w.drew := by
 have hUS := fun (W : World) (q : Option Addr) => Lib.run_unsafeString_none (P := Tryz.prog) W 110 3 9 q
 have c1 : w.drew.cell? ⟨b,1,none⟩ = some (.slice none 0 0) := by
  have : w.drew.heap[b]? = some (.cells #[p,.slice none 0 0] 99 (0,0)) := hbk
  rw [Lib.cell_of_heap this];rfl
 have hSD : (Builtin.unsafeSliceData_ #[97] 110 #[.slice none 0 0]).run Tryz.prog w.drew = .ok (.pointer none) w.drew := rfl
 go_enter Tryz.func57,Tryz.ntmps57
 go_wp2
 go_region
 all_goals (go_wp2;go_ret;exact ⟨rfl,rfl⟩)
theorem bs_noroom (b g : Nat) (p : Value) (cur : Array Value) (w : World) (hbk : w.heap[b]? = some (.cells #[p,.slice (some ⟨g,0,none⟩) 0 0] 99 (0,0))) (hg : w.heap[g]? = some (.cells cur 5 (0,0))) :
  Calls Tryz.prog 57 #[.pointer (some ⟨b,0,none⟩)] w fun e w' => e = .returned (.string ⟨#[]⟩) ∧ ((∃ o,w' = w.drew.alloc o) ∨ ∃ o,w' = (w.alloc o).drew) := by
 have hUS := fun (W : World) (q : Option Addr) => Lib.run_unsafeString_none (P := Tryz.prog) W 110 3 9 q
 have hlt : b < w.heap.size := (Array.getElem?_eq_some_iff.1 hbk).1
 have c1 : w.drew.cell? ⟨b,1,none⟩ = some (.slice (some ⟨g,0,none⟩) 0 0) := by
  have : w.drew.heap[b]? = some (.cells #[p,.slice (some ⟨g,0,none⟩) 0 0] 99 (0,0)) := hbk
  rw [Lib.cell_of_heap this];rfl
 have hSD : (Builtin.unsafeSliceData_ #[97] 110 #[.slice (some ⟨g,0,none⟩) 0 0]).run Tryz.prog w.drew = .ok (.pointer (some ⟨w.drew.heap.size,0,none⟩)) (w.drew.alloc (.view ⟨g,0,none⟩ 5)) :=
  Lib.run_unsafeSliceData_zero w.drew _ _ 5 Tryz.underlying110 ⟨g,0,none⟩ 0 (5,cur.size) (by have hg' : w.drew.heap[g]? = some (.cells cur 5 (0,0)) := hg;simp [World.shape?,hg'])
 have c2 : (w.drew.alloc (.view ⟨g,0,none⟩ 5)).cell? ⟨b,1,none⟩ = some (.slice (some ⟨g,0,none⟩) 0 0) := by
  have : (w.drew.alloc (.view ⟨g,0,none⟩ 5)).heap[b]? = _ := (Lib.alloc_old w.drew _ b hlt).trans hbk
  rw [Lib.cell_of_heap this];rfl
 have c3 : (w.alloc (.view ⟨g,0,none⟩ 5)).drew.cell? ⟨b,1,none⟩ = some (.slice (some ⟨g,0,none⟩) 0 0) := c2
 have c0 : w.cell? ⟨b,1,none⟩ = some (.slice (some ⟨g,0,none⟩) 0 0) := c1
 go_enter Tryz.func57,Tryz.ntmps57
 go_wp2
 go_region
 all_goals (go_wp2;go_ret;exact ⟨rfl,by first | exact .inl ⟨_,rfl⟩ | exact .inr ⟨_,rfl⟩⟩)
theorem bs_room (b g cap : Nat) (p : Value) (w : World) (hc0 : cap ≠ 0) (hbk : w.heap[b]? = some (.cells #[p,.slice (some ⟨g,0,none⟩) 0 cap] 99 (0,0))) :
  Calls Tryz.prog 57 #[.pointer (some ⟨b,0,none⟩)] w fun e w' => e = .returned (.string ⟨#[]⟩) ∧ w' = w.drew := by
 have hUS := fun (W : World) (q : Option Addr) => Lib.run_unsafeString_none (P := Tryz.prog) W 110 3 9 q
 have c1 : w.drew.cell? ⟨b,1,none⟩ = some (.slice (some ⟨g,0,none⟩) 0 cap) := by
  have : w.drew.heap[b]? = some (.cells #[p,.slice (some ⟨g,0,none⟩) 0 cap] 99 (0,0)) := hbk
  rw [Lib.cell_of_heap this];rfl
 have hSD : (Builtin.unsafeSliceData_ #[97] 110 #[.slice (some ⟨g,0,none⟩) 0 cap]).run Tryz.prog w.drew = .ok (.pointer (some ⟨g,0,none⟩)) w.drew :=
  Lib.run_unsafeSliceData_row _ _ _ _ _ _ hc0
 clear hc0
 go_enter Tryz.func57,Tryz.ntmps57
 go_wp2
 go_region
 all_goals (go_wp2;go_ret;exact ⟨rfl,rfl⟩)
theorem bs_row (b g cap : Nat) (p : Value) (cur : Array Value) (l : List UInt8) (w : World) (hl0 : l ≠ []) (hbk : w.heap[b]? = some (.cells #[p,.slice (some ⟨g,0,none⟩) l.length cap] 99 (0,0)))
  (hg : w.heap[g]? = some (.cells cur 5 (0,0))) (hnc : l.length ≤ cap) (hcm : cap ≤ maxLen) (hcs : cur.size = cap * 1) (hcell : ∀ j x,l[j]? = some x -> w.cell? ⟨g,j,none⟩ = some (.int .u8 x.toNat)) :
  Calls Tryz.prog 57 #[.pointer (some ⟨b,0,none⟩)] w fun e w' => e = .returned (.string ⟨l.toArray⟩) ∧ w' = w.drew.freeze ⟨g,0,none⟩ l.length := by
 have hl1 : l.length ≠ 0 := by simpa using hl0
 have c1 : w.drew.cell? ⟨b,1,none⟩ = some (.slice (some ⟨g,0,none⟩) l.length cap) := by
  have : w.drew.heap[b]? = some (.cells #[p,.slice (some ⟨g,0,none⟩) l.length cap] 99 (0,0)) := hbk
  rw [Lib.cell_of_heap this];rfl
 have hSD : (Builtin.unsafeSliceData_ #[97] 110 #[.slice (some ⟨g,0,none⟩) l.length cap]).run Tryz.prog w.drew = .ok (.pointer (some ⟨g,0,none⟩)) w.drew :=
  Lib.run_unsafeSliceData_row _ _ _ _ _ _ (by omega)
 have hUS : (Builtin.unsafeString_ #[110,3] 9 #[.pointer (some ⟨g,0,none⟩),.int .i64 l.length]).run Tryz.prog w.drew = .ok (.string ⟨l.toArray⟩) (w.drew.freeze ⟨g,0,none⟩ l.length) := by
  refine Lib.run_unsafeString_row w.drew 110 3 9 5 Tryz.underlying110 (by kernel_rfl) g cur.size (by have hg' : w.drew.heap[g]? = some (.cells cur 5 (0,0)) := hg;simp [World.shape?,hg']) l hl0 (by omega) (by unfold maxLen at hcm;omega) ?_
  intro j x hx
  have := hcell j x hx
  simp only [Addr.add,Nat.zero_add]
  split
  ·rename_i hj;subst hj;exact this
  ·exact this
 clear hl0 hl1 hg hnc hcm hcs hcell
 go_enter Tryz.func57,Tryz.ntmps57
 go_wp2
 go_region
 all_goals (go_wp2;go_ret;exact ⟨rfl,rfl⟩)
theorem bs_cw (u : Bool) (S : List UInt8) : CW (TT ()) 57 [.bx 0 0] (Bld u S) fun d h' => d = .raw (.string ⟨S.toArray⟩) ∧ h' = [.dead,.dead] := by
 refine ⟨callable_at Tryz.func57 (by kernel_rfl) rfl,fun C w args s r => ?_⟩
 obtain ⟨v0,rfl,b',hb',rfl⟩ := rdL_one r
 obtain ⟨b,v,hb,hbk,hv,h1,hS⟩ := bld_at s
 have eb := Option.some.inj (hb.symm.trans hb')
 rw [← eb]
 clear hb' eb
 obtain ⟨lu,xs,hlg,hown,_⟩ := s.log 1 _ _ _ rfl
 obtain ⟨_,hv2,hv3⟩ := hv
 obtain ⟨u',hu',_,heq⟩ := hv3 1 rfl
 rw [hlg] at hu'
 cases hu'
 rw [bytesD_len] at heq hv2
 obtain rfl : v = lu := heq (ownsRow_len hown).symm
 have hfin : ∀ w' : World,w'.os = w.os -> w'.tape = w.tape -> w'.output = w.output -> w.heap.size ≤ w'.heap.size -> (∀ b o,b < w.heap.size -> w'.cell? ⟨b,o,none⟩ = w.cell? ⟨b,o,none⟩) -> (∀ b,b < w.heap.size -> (∀ id,¬ C.blk id b) -> w'.heap[b]? = w.heap[b]?) ->
   ∃ v C' d h',Ending.returned (.string ⟨S.toArray⟩) = .returned v ∧ (d = D.raw (.string ⟨S.toArray⟩) ∧ h' = [Cell.dead,.dead]) ∧ Fw C w C' w' ∧ Sim C' h' w' ∧ Rd C' w' d v := fun w' a1 a2 a3 a4 a5 a6 => by
  obtain ⟨f,s'⟩ := bl_end s a1 a2 a3 a4 a5 a6
  exact ⟨_,C,_,_,rfl,⟨rfl,rfl⟩,f,s',rfl⟩
 rcases hown.2 with ⟨rfl,h0⟩ | ⟨g,cap,cur,rfl,hbg,hg,hnc,hcm,hcs,htake⟩
 ·obtain rfl := List.eq_nil_of_length_eq_zero h0
  refine (bs_nil b _ w hbk).mono ?_
  rintro e w' ⟨rfl,rfl⟩
  exact hfin _ rfl rfl rfl (Nat.le_refl _) (fun _ _ _ => rfl) (fun _ _ _ => rfl)
 ·by_cases h0 : S.length = 0
  ·obtain rfl := List.eq_nil_of_length_eq_zero h0
   by_cases hc0 : cap = 0
   ·subst hc0
    refine (bs_noroom b g _ cur w hbk hg).mono ?_
    rintro e w' ⟨rfl,hw⟩
    have hal : ∀ (o : Obj) (k : Nat),k < w.heap.size -> (w.alloc o).heap[k]? = w.heap[k]? := fun o k hk => Below.heap_alloc w o k hk
    rcases hw with ⟨o,rfl⟩ | ⟨o,rfl⟩
    ·exact hfin _ rfl rfl rfl (by simp) (fun k o' hk => World.cell?_of_block (a := ⟨k,o',none⟩) (hal o k hk)) (fun k hk _ => hal o k hk)
    ·exact hfin _ rfl rfl rfl (by simp) (fun k o' hk => World.cell?_of_block (a := ⟨k,o',none⟩) (hal o k hk)) (fun k hk _ => hal o k hk)
   ·refine (bs_room b g cap _ w hc0 hbk).mono ?_
    rintro e w' ⟨rfl,rfl⟩
    exact hfin _ rfl rfl rfl (Nat.le_refl _) (fun _ _ _ => rfl) (fun _ _ _ => rfl)
  ·obtain ⟨b2,off,cap2,hv4,_,hr⟩ := hv2 (by omega)
   simp at hv4
   obtain ⟨⟨rfl,rfl⟩,rfl⟩ := hv4
   refine (bs_row b g cap _ cur S w (by intro e;rw [e] at h0;exact h0 rfl) hbk hg hnc hcm hcs fun j x hx => ?_).mono ?_
   ·obtain ⟨u3,k1,k2,_,k4⟩ := hr.get (i := j) (d := byteD x) (by unfold bytesD;rw [List.getElem?_map,hx];rfl)
    simp only [byteD,Pv.Rd] at k1
    subst k1
    have := k4 0 (by simp [Value.cells])
    simpa [Value.cells] using this
   rintro e w' ⟨rfl,rfl⟩
   refine hfin _ ?_ ?_ ?_ ?_ (fun k o hk => cell_freeze _ _ _ _) (fun k hk hn => ?_)
   ·unfold World.freeze;split <;> rfl
   ·unfold World.freeze;split <;> rfl
   ·unfold World.freeze;split <;> rfl
   ·rw [size_freeze];exact Nat.le_refl _
   ·exact other_freeze _ _ _ fun e => hn 1 (.inr ⟨_,hlg,by rw [e];rfl⟩)
end Go.Proofs.YtkoabcncdjmoeaaGreatDoor

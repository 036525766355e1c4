/- strconv.Itoa as data see it: the table stands. -/
import Derived.Lib.AppendIntMem
import Derived.Test.YtkoabcncdjmoeaaGreatDoorMe
import Derived.Test.YtkoabcncdjmoeaaGreatDoorNl
set_option linter.unusedSimpArgs false
set_option linter.unusedVariables false
set_option maxRecDepth 1000000
set_option maxHeartbeats 40000000
namespace Go.Proofs.YtkoabcncdjmoeaaGreatDoor
open Go.RowKit Pv
theorem ghost_at {S : Nat -> Nat -> Prop} {w : World} (h : Okay S w) : ∀ i,i < 21 -> w.cell? ⟨1,i,none⟩ = if i < 20 then some (.int .u64 ((10 ^ i : Nat) : Int)) else none := fun i hi =>
 (h.pin (1,i,if i < 20 then some (.int .u64 ((10 ^ i : Nat) : Int)) else none) (by unfold ghost;first | exact List.mem_map.2 ⟨i,List.mem_range.2 hi,rfl⟩ | exact List.mem_append_left _ (List.mem_map.2 ⟨i,List.mem_range.2 hi,rfl⟩))).2
theorem tab_of {S : Nat → Nat → Prop} {w : World} (h : Okay S w) : Lib.TabIs Tryz.prog w "internal/strconv.uint64pow10" .u64 Lib.pow10Tab := by
 have hp := ghost_at h
 have hg : Tryz.prog.globalNamed "internal/strconv.uint64pow10" = some 1 := by kernel_rfl
 unfold Lib.TabIs World.var?
 rw [hg]
 simp only [Option.bind_some]
 have h0 := hp 0 (by decide)
 have h20 := hp 20 (by decide)
 simp only [World.cell?] at hp h0 h20
 cases hh : w.heap[1]? with
 | none => rw [hh] at h0;simp at h0
 | some o =>
  rw [hh] at h0 h20
  cases o with
  | cells c t f =>
   simp only [hh] at hp
   simp at h20
   simp only [Option.some.injEq]
   apply Array.ext'
   apply List.ext_getElem?
   intro i
   by_cases hi : i < 20
   ·have := hp i (by omega)
    simp [hi] at this
    simp [Lib.pow10Tab,hi,this]
   ·rw [List.getElem?_eq_none (by simp;omega),List.getElem?_eq_none (by simp [Lib.pow10Tab];omega)]
  | _ => simp at h0
theorem itoa_cp (n : Int) (h0 : -9223372036854775808 ≤ n) (h1 : n ≤ 9223372036854775807) : CP (TT ()) 88 [.raw (.int .i64 n)] (· = .raw (.string ⟨(Lib.itoa n).toArray⟩)) := by
 refine ⟨callable_at Tryz.func88 (by kernel_rfl) rfl,fun S w args hS r => ?_⟩
 obtain ⟨v,rfl,h⟩ := rdL_one r
 simp only [Pv.Rd] at h
 subst h
 refine (lb_strconv_Itoa n h0 h1 w (tab_of hS)).mono ?_
 rintro e w' ⟨rfl,k,os,rfl⟩
 have hb := Lib.below_grow w.heap.size w (Nat.le_refl _) k os
 exact ⟨_,S,_,rfl,rfl,hb,fun _ _ h => h,fun b o hs => ⟨Nat.lt_of_lt_of_le (hS b o hs) hb.size,fun _ => hs⟩,rfl⟩
end Go.Proofs.YtkoabcncdjmoeaaGreatDoor

/- Parts of the proof: LR6, LR7. -/
import Derived.Test.YtkoabcncdjmoeaaGreatDoorOb
import Derived.Test.YtkoabcncdjmoeaaGreatDoorOc
import Derived.Test.YtkoabcncdjmoeaaGreatDoorOd
import Derived.Test.YtkoabcncdjmoeaaGreatDoorOa
import Derived.Test.YtkoabcncdjmoeaaGreatDoorMo
set_option linter.unusedSimpArgs false
set_option linter.unusedVariables false
set_option maxRecDepth 1000000
set_option maxHeartbeats 40000000
namespace Go.Proofs.YtkoabcncdjmoeaaGreatDoor
open Go.RowKit
def stepV (s : ByteArray) (p : Nat) : Value :=
 if blankB (bI (rest s p) 0) = true then gotV 0 0 ⟨#[]⟩ 0 true ((p : Int) + 1) 0 0
 else if (bI (rest s p) 0 == 59) = true then gotV 0 0 ⟨#[]⟩ 0 true ((p : Int) + (runN notNl (rest s p) : Int)) 0 0
 else gotOf (itemI (rest s p)) p
theorem gotOf_form (it : It) (p : Nat) : ∃ k n t a to e at',gotOf it p = gotV k n t a false to e at' := by
 cases it with
 | tok k n t wd => exact ⟨_,_,_,_,_,_,_,rfl⟩
 | bad c o => exact ⟨_,_,_,_,_,_,_,rfl⟩
theorem rnext_any (s : ByteArray) (p : Nat) (w : World) (hs : s.size ≤ 65536) (hp : p < s.size) :
  Calls Tryz.prog 42 #[.string s,.int .i64 p] w fun e w' => e = .returned (stepV s p) ∧ Below w.heap.size w w' := by
 have HS : Asd (s.size ≤ maxLen) := ⟨by unfold maxLen;omega⟩
 have hb0 : bI (rest s p) 0 = (s[p].toNat : Int) := rest_bI s p 0 (by omega)
 generalize hV : stepV s p = V
 unfold stepV at hV
 rw [hb0] at hV
 have HV := Asd.mk hV
 have HB0 := Asd.mk hb0
 clear hV hb0
 have F := Asd.mk (G8.start w _ rfl)
 have dig := Asd.mk (fun w => rdigit_any (s[p].toNat : Int) w)
 have let' := Asd.mk (fun w => rletter_any (s[p].toNat : Int) w)
 rcases Bool.eq_false_or_eq_true ((s[p].toNat : Int) == 32) with h32 | h32
 ·have hbl : blankB (s[p].toNat : Int) = true := by simp only [blankB,h32,Bool.or_true,Bool.true_or,Bool.false_or]
  obtain rfl : V = gotV 0 0 ⟨#[]⟩ 0 true ((p : Int) + 1) 0 0 := by rw [← HV.out,hbl];rfl
  clear hbl F dig let'
  go_enter Tryz.func42,Tryz.ntmps42
  go_wp2_with fail
  exact bodyPost_ret (v := gotV 0 0 ⟨#[]⟩ 0 true ((p : Int) + 1) 0 0) (by simp [results,Tryz.results42,go_sem,gotV]) rfl ⟨rfl,(Below.refl _ _).alloc (Nat.le_refl _) _⟩
 rcases Bool.eq_false_or_eq_true ((s[p].toNat : Int) == 9) with h9 | h9
 ·have hbl : blankB (s[p].toNat : Int) = true := by simp only [blankB,h32,h9,Bool.or_true,Bool.true_or,Bool.false_or]
  obtain rfl : V = gotV 0 0 ⟨#[]⟩ 0 true ((p : Int) + 1) 0 0 := by rw [← HV.out,hbl];rfl
  clear hbl F dig let'
  go_enter Tryz.func42,Tryz.ntmps42
  go_wp2_with fail
  exact bodyPost_ret (v := gotV 0 0 ⟨#[]⟩ 0 true ((p : Int) + 1) 0 0) (by simp [results,Tryz.results42,go_sem,gotV]) rfl ⟨rfl,(Below.refl _ _).alloc (Nat.le_refl _) _⟩
 rcases Bool.eq_false_or_eq_true ((s[p].toNat : Int) == 10) with h10 | h10
 ·have hbl : blankB (s[p].toNat : Int) = true := by simp only [blankB,h32,h9,h10,Bool.or_true,Bool.true_or,Bool.false_or]
  obtain rfl : V = gotV 0 0 ⟨#[]⟩ 0 true ((p : Int) + 1) 0 0 := by rw [← HV.out,hbl];rfl
  clear hbl F dig let'
  go_enter Tryz.func42,Tryz.ntmps42
  go_wp2_with fail
  exact bodyPost_ret (v := gotV 0 0 ⟨#[]⟩ 0 true ((p : Int) + 1) 0 0) (by simp [results,Tryz.results42,go_sem,gotV]) rfl ⟨rfl,(Below.refl _ _).alloc (Nat.le_refl _) _⟩
 rcases Bool.eq_false_or_eq_true ((s[p].toNat : Int) == 13) with h13 | h13
 ·have hbl : blankB (s[p].toNat : Int) = true := by simp only [blankB,h32,h9,h10,h13,Bool.or_true,Bool.true_or,Bool.false_or]
  obtain rfl : V = gotV 0 0 ⟨#[]⟩ 0 true ((p : Int) + 1) 0 0 := by rw [← HV.out,hbl];rfl
  clear hbl F dig let'
  go_enter Tryz.func42,Tryz.ntmps42
  go_wp2_with fail
  exact bodyPost_ret (v := gotV 0 0 ⟨#[]⟩ 0 true ((p : Int) + 1) 0 0) (by simp [results,Tryz.results42,go_sem,gotV]) rfl ⟨rfl,(Below.refl _ _).alloc (Nat.le_refl _) _⟩
 have hbl : blankB (s[p].toNat : Int) = false := by simp only [blankB,h32,h9,h10,h13,Bool.or_self]
 rcases Bool.eq_false_or_eq_true ((s[p].toNat : Int) == 59) with h59 | h59
 ·have HN : Asd (∃ N,N = runN notNl (rest s p)) := ⟨_,rfl⟩
  obtain ⟨N,hN⟩ := HN.out
  clear HN
  have HN := Asd.mk hN
  have hNle : p + N ≤ s.size := by have := runN_le notNl (rest s p);rw [rest_len] at this;omega
  obtain rfl : V = gotV 0 0 ⟨#[]⟩ 0 true ((p : Int) + (N : Int)) 0 0 := by rw [← HV.out,hbl,h59,hN];rfl
  clear hbl hN
  go_enter Tryz.func42,Tryz.ntmps42
  go_wp2_with fail
  generalize (w.alloc (.cells #[.int .i64 0,.int .i64 0,.string ⟨#[]⟩,.int .i64 0,.bool false,.int .i64 0,.int .i64 0,.int .i64 0] 82)) = W at F ⊢
  go_loop [6] (fun v6 => ∃ k : Nat,v6 = .int .i64 ((p : Int) + (k : Int)) ∧ p + k ≤ s.size ∧ k + runN notNl (rest s (p + k)) = N) (fun v6 => s.size - (intOf v6).toNat)
  case atStart => exact ⟨0,by simp,by omega,by rw [Nat.add_zero,Nat.zero_add];exact HN.out.symm⟩
  case round =>
   obtain ⟨k,rfl,hk,hr⟩ := hrel
   obtain ⟨m,hm⟩ : ∃ m,m = p + k := ⟨_,rfl⟩
   have hmi : (p : Int) + (k : Int) = (m : Int) := by omega
   rw [hmi]
   rw [← hm] at hr hk
   have HM := Asd.mk (And.intro hm hr)
   clear hm hr hmi
   by_cases hlt : m < s.size
   ·rcases Bool.eq_false_or_eq_true ((s[m].toNat : Int) != 10) with hq | hq
    ·have HX : Asd (notNl (s[m].toNat : Int) = true) := ⟨hq⟩
     go_wp2_with fail
     go_round
     case rel => exact ⟨k + 1,by have := HM.out.1;exact congrArg (Value.int .i64) (by omega),by have := HM.out.1;omega,by
      have h1 := HM.out.2
      rw [rest_lt s m hlt,runN,if_pos HX.out] at h1
      rw [← Nat.add_assoc,← HM.out.1]
      omega⟩
     case measure => simp [intOf];omega
    ·have HX : Asd (notNl (s[m].toNat : Int) = false) := ⟨hq⟩
     have HMN : Asd ((m : Int) = (p : Int) + (N : Int)) := ⟨by
      have h1 := HM.out.2
      rw [rest_lt s m hlt,runN,if_neg (by rw [HX.out];simp)] at h1
      have := HM.out.1
      omega⟩
     have hz5 := F.out.blk
     have z0 : W.cell? ⟨w.heap.size,0,none⟩ = some (.int .i64 0) := cell_of hz5 0
     have z1 : W.cell? ⟨w.heap.size,1,none⟩ = some (.int .i64 0) := cell_of hz5 1
     have z2 : W.cell? ⟨w.heap.size,2,none⟩ = some (.string ⟨#[]⟩) := cell_of hz5 2
     have z3 : W.cell? ⟨w.heap.size,3,none⟩ = some (.int .i64 0) := cell_of hz5 3
     have z4 : W.cell? ⟨w.heap.size,4,none⟩ = some (.bool false) := cell_of hz5 4
     have z5 : W.cell? ⟨w.heap.size,5,none⟩ = some (.int .i64 0) := cell_of hz5 5
     have z6 : W.cell? ⟨w.heap.size,6,none⟩ = some (.int .i64 0) := cell_of hz5 6
     have z7 : W.cell? ⟨w.heap.size,7,none⟩ = some (.int .i64 0) := cell_of hz5 7
     have f0 : W.frozen? ⟨w.heap.size,0,none⟩ = false := free_of hz5 0
     have f1 : W.frozen? ⟨w.heap.size,1,none⟩ = false := free_of hz5 1
     have f2 : W.frozen? ⟨w.heap.size,2,none⟩ = false := free_of hz5 2
     have f3 : W.frozen? ⟨w.heap.size,3,none⟩ = false := free_of hz5 3
     have f4 : W.frozen? ⟨w.heap.size,4,none⟩ = false := free_of hz5 4
     have f5 : W.frozen? ⟨w.heap.size,5,none⟩ = false := free_of hz5 5
     have f6 : W.frozen? ⟨w.heap.size,6,none⟩ = false := free_of hz5 6
     have f7 : W.frozen? ⟨w.heap.size,7,none⟩ = false := free_of hz5 7
     clear hz5
     go_wp2_with fail
     refine got_ret F.out.below F.out.blk rfl ?_
     intro Wf hR y0 y1 y2 y3 y4 y5 y6 y7
     exact bodyPost_ret (v := gotV 0 0 (⟨#[]⟩) 0 true ((p : Int) + (N : Int)) 0 0) (by simp [results,Tryz.results42,go_sem,y0,y1,y2,y3,y4,y5,y6,y7,gotV,HMN.out]) rfl ⟨rfl,hR⟩
   ·have HMN : Asd ((m : Int) = (p : Int) + (N : Int)) := ⟨by
     have h1 := HM.out.2
     rw [rest_end s m (by omega),runN] at h1
     have := HM.out.1
     omega⟩
    have hz5 := F.out.blk
    have z0 : W.cell? ⟨w.heap.size,0,none⟩ = some (.int .i64 0) := cell_of hz5 0
    have z1 : W.cell? ⟨w.heap.size,1,none⟩ = some (.int .i64 0) := cell_of hz5 1
    have z2 : W.cell? ⟨w.heap.size,2,none⟩ = some (.string ⟨#[]⟩) := cell_of hz5 2
    have z3 : W.cell? ⟨w.heap.size,3,none⟩ = some (.int .i64 0) := cell_of hz5 3
    have z4 : W.cell? ⟨w.heap.size,4,none⟩ = some (.bool false) := cell_of hz5 4
    have z5 : W.cell? ⟨w.heap.size,5,none⟩ = some (.int .i64 0) := cell_of hz5 5
    have z6 : W.cell? ⟨w.heap.size,6,none⟩ = some (.int .i64 0) := cell_of hz5 6
    have z7 : W.cell? ⟨w.heap.size,7,none⟩ = some (.int .i64 0) := cell_of hz5 7
    have f0 : W.frozen? ⟨w.heap.size,0,none⟩ = false := free_of hz5 0
    have f1 : W.frozen? ⟨w.heap.size,1,none⟩ = false := free_of hz5 1
    have f2 : W.frozen? ⟨w.heap.size,2,none⟩ = false := free_of hz5 2
    have f3 : W.frozen? ⟨w.heap.size,3,none⟩ = false := free_of hz5 3
    have f4 : W.frozen? ⟨w.heap.size,4,none⟩ = false := free_of hz5 4
    have f5 : W.frozen? ⟨w.heap.size,5,none⟩ = false := free_of hz5 5
    have f6 : W.frozen? ⟨w.heap.size,6,none⟩ = false := free_of hz5 6
    have f7 : W.frozen? ⟨w.heap.size,7,none⟩ = false := free_of hz5 7
    clear hz5
    go_wp2_with fail
    refine got_ret F.out.below F.out.blk rfl ?_
    intro Wf hR y0 y1 y2 y3 y4 y5 y6 y7
    exact bodyPost_ret (v := gotV 0 0 (⟨#[]⟩) 0 true ((p : Int) + (N : Int)) 0 0) (by simp [results,Tryz.results42,go_sem,y0,y1,y2,y3,y4,y5,y6,y7,gotV,HMN.out]) rfl ⟨rfl,hR⟩
 have hV2 : V = gotOf (itemI (rest s p)) p := by rw [← HV.out,hbl,h59];rfl
 unfold itemI at hV2
 rw [HB0.out] at hV2
 have HV2 := Asd.mk hV2
 clear hV2 hbl HV
 rcases Bool.eq_false_or_eq_true (digB (s[p].toNat : Int)) with hd | hd
 ·have HI : Asd (V = gotOf (numI (rest s p)) p) := ⟨by rw [HV2.out,hd];rfl⟩
  have HD := Asd.mk hd
  rw [hd] at dig
  clear HV2 hd
  obtain ⟨gk,gn,gt,ga,gto,ge,gat,hform⟩ := gotOf_form (numI (rest s p)) p
  have X := Asd.mk (fun w => rnumber_any s p w HS.out hp HD.out)
  rw [hform] at X
  have HF : Asd (V = gotV gk gn gt ga false gto ge gat) := ⟨by rw [← hform];exact HI.out⟩
  clear hform HI
  obtain rfl := HF.out
  clear HF
  go_enter Tryz.func42,Tryz.ntmps42
  go_wp2_with fail
  generalize (w.alloc (.cells #[.int .i64 0,.int .i64 0,.string ⟨#[]⟩,.int .i64 0,.bool false,.int .i64 0,.int .i64 0,.int .i64 0] 82)) = W at F ⊢
  refine (dig.out _).mono ?_
  rintro e w1 ⟨rfl,rfl⟩
  go_wp2_with fail
  refine (X.out _).mono ?_
  rintro e w5 ⟨rfl,hb5⟩
  have G5 := Asd.mk (F.out.step hb5)
  have hz5 := G5.out.blk
  have z0 : w5.cell? ⟨w.heap.size,0,none⟩ = some (.int .i64 0) := cell_of hz5 0
  have z1 : w5.cell? ⟨w.heap.size,1,none⟩ = some (.int .i64 0) := cell_of hz5 1
  have z2 : w5.cell? ⟨w.heap.size,2,none⟩ = some (.string ⟨#[]⟩) := cell_of hz5 2
  have z3 : w5.cell? ⟨w.heap.size,3,none⟩ = some (.int .i64 0) := cell_of hz5 3
  have z4 : w5.cell? ⟨w.heap.size,4,none⟩ = some (.bool false) := cell_of hz5 4
  have z5 : w5.cell? ⟨w.heap.size,5,none⟩ = some (.int .i64 0) := cell_of hz5 5
  have z6 : w5.cell? ⟨w.heap.size,6,none⟩ = some (.int .i64 0) := cell_of hz5 6
  have z7 : w5.cell? ⟨w.heap.size,7,none⟩ = some (.int .i64 0) := cell_of hz5 7
  have f0 : w5.frozen? ⟨w.heap.size,0,none⟩ = false := free_of hz5 0
  have f1 : w5.frozen? ⟨w.heap.size,1,none⟩ = false := free_of hz5 1
  have f2 : w5.frozen? ⟨w.heap.size,2,none⟩ = false := free_of hz5 2
  have f3 : w5.frozen? ⟨w.heap.size,3,none⟩ = false := free_of hz5 3
  have f4 : w5.frozen? ⟨w.heap.size,4,none⟩ = false := free_of hz5 4
  have f5 : w5.frozen? ⟨w.heap.size,5,none⟩ = false := free_of hz5 5
  have f6 : w5.frozen? ⟨w.heap.size,6,none⟩ = false := free_of hz5 6
  have f7 : w5.frozen? ⟨w.heap.size,7,none⟩ = false := free_of hz5 7
  clear hz5 hb5
  unfold gotV
  go_wp2_with fail
  refine got_ret G5.out.below G5.out.blk rfl ?_
  intro Wf hR y0 y1 y2 y3 y4 y5 y6 y7
  exact bodyPost_ret (v := gotV gk gn gt ga false gto ge gat) (by simp [results,Tryz.results42,go_sem,y0,y1,y2,y3,y4,y5,y6,y7,gotV]) rfl ⟨rfl,hR⟩
 rw [hd] at dig HV2
 simp only [Bool.false_eq_true,if_false] at HV2
 rcases Bool.eq_false_or_eq_true (letB (s[p].toNat : Int)) with hl | hl
 ·have HI : Asd (V = gotOf (wordI (rest s p)) p) := ⟨by rw [HV2.out,hl];rfl⟩
  have ha : alnB (s[p].toNat : Int) = true := by unfold alnB;rw [hl];rfl
  rw [ha] at let'
  clear HV2 hd hl ha
  obtain ⟨gk,gn,gt,ga,gto,ge,gat,hform⟩ := gotOf_form (wordI (rest s p)) p
  have X := Asd.mk (fun w => rword_any s p w HS.out hp)
  rw [hform] at X
  have HF : Asd (V = gotV gk gn gt ga false gto ge gat) := ⟨by rw [← hform];exact HI.out⟩
  clear hform HI
  obtain rfl := HF.out
  clear HF
  go_enter Tryz.func42,Tryz.ntmps42
  go_wp2_with fail
  generalize (w.alloc (.cells #[.int .i64 0,.int .i64 0,.string ⟨#[]⟩,.int .i64 0,.bool false,.int .i64 0,.int .i64 0,.int .i64 0] 82)) = W at F ⊢
  refine (dig.out _).mono ?_
  rintro e w1 ⟨rfl,rfl⟩
  go_wp2_with fail
  refine (let'.out _).mono ?_
  rintro e w1 ⟨rfl,rfl⟩
  go_wp2_with fail
  refine (X.out _).mono ?_
  rintro e w5 ⟨rfl,hb5⟩
  have G5 := Asd.mk (F.out.step hb5)
  have hz5 := G5.out.blk
  have z0 : w5.cell? ⟨w.heap.size,0,none⟩ = some (.int .i64 0) := cell_of hz5 0
  have z1 : w5.cell? ⟨w.heap.size,1,none⟩ = some (.int .i64 0) := cell_of hz5 1
  have z2 : w5.cell? ⟨w.heap.size,2,none⟩ = some (.string ⟨#[]⟩) := cell_of hz5 2
  have z3 : w5.cell? ⟨w.heap.size,3,none⟩ = some (.int .i64 0) := cell_of hz5 3
  have z4 : w5.cell? ⟨w.heap.size,4,none⟩ = some (.bool false) := cell_of hz5 4
  have z5 : w5.cell? ⟨w.heap.size,5,none⟩ = some (.int .i64 0) := cell_of hz5 5
  have z6 : w5.cell? ⟨w.heap.size,6,none⟩ = some (.int .i64 0) := cell_of hz5 6
  have z7 : w5.cell? ⟨w.heap.size,7,none⟩ = some (.int .i64 0) := cell_of hz5 7
  have f0 : w5.frozen? ⟨w.heap.size,0,none⟩ = false := free_of hz5 0
  have f1 : w5.frozen? ⟨w.heap.size,1,none⟩ = false := free_of hz5 1
  have f2 : w5.frozen? ⟨w.heap.size,2,none⟩ = false := free_of hz5 2
  have f3 : w5.frozen? ⟨w.heap.size,3,none⟩ = false := free_of hz5 3
  have f4 : w5.frozen? ⟨w.heap.size,4,none⟩ = false := free_of hz5 4
  have f5 : w5.frozen? ⟨w.heap.size,5,none⟩ = false := free_of hz5 5
  have f6 : w5.frozen? ⟨w.heap.size,6,none⟩ = false := free_of hz5 6
  have f7 : w5.frozen? ⟨w.heap.size,7,none⟩ = false := free_of hz5 7
  clear hz5 hb5
  unfold gotV
  go_wp2_with fail
  refine got_ret G5.out.below G5.out.blk rfl ?_
  intro Wf hR y0 y1 y2 y3 y4 y5 y6 y7
  exact bodyPost_ret (v := gotV gk gn gt ga false gto ge gat) (by simp [results,Tryz.results42,go_sem,y0,y1,y2,y3,y4,y5,y6,y7,gotV]) rfl ⟨rfl,hR⟩
 rw [hl] at HV2
 simp only [Bool.false_eq_true,if_false] at HV2
 have ha : alnB (s[p].toNat : Int) = false := by unfold alnB;rw [hl,hd];rfl
 rw [ha] at let'
 clear ha hd hl
 rcases Bool.eq_false_or_eq_true ((s[p].toNat : Int) == 34) with h34 | h34
 ·have HI : Asd (V = gotOf (textI (rest s p)) p) := ⟨by rw [HV2.out,h34];rfl⟩
  clear HV2
  obtain ⟨gk,gn,gt,ga,gto,ge,gat,hform⟩ := gotOf_form (textI (rest s p)) p
  have X := Asd.mk (fun w => rtext_any s p w hs hp)
  rw [hform] at X
  have HF : Asd (V = gotV gk gn gt ga false gto ge gat) := ⟨by rw [← hform];exact HI.out⟩
  clear hform HI
  obtain rfl := HF.out
  clear HF
  go_enter Tryz.func42,Tryz.ntmps42
  go_wp2_with fail
  generalize (w.alloc (.cells #[.int .i64 0,.int .i64 0,.string ⟨#[]⟩,.int .i64 0,.bool false,.int .i64 0,.int .i64 0,.int .i64 0] 82)) = W at F ⊢
  refine (dig.out _).mono ?_
  rintro e w1 ⟨rfl,rfl⟩
  go_wp2_with fail
  refine (let'.out _).mono ?_
  rintro e w1 ⟨rfl,rfl⟩
  go_wp2_with fail
  refine (X.out _).mono ?_
  rintro e w5 ⟨rfl,hb5⟩
  have G5 := Asd.mk (F.out.step hb5)
  have hz5 := G5.out.blk
  have z0 : w5.cell? ⟨w.heap.size,0,none⟩ = some (.int .i64 0) := cell_of hz5 0
  have z1 : w5.cell? ⟨w.heap.size,1,none⟩ = some (.int .i64 0) := cell_of hz5 1
  have z2 : w5.cell? ⟨w.heap.size,2,none⟩ = some (.string ⟨#[]⟩) := cell_of hz5 2
  have z3 : w5.cell? ⟨w.heap.size,3,none⟩ = some (.int .i64 0) := cell_of hz5 3
  have z4 : w5.cell? ⟨w.heap.size,4,none⟩ = some (.bool false) := cell_of hz5 4
  have z5 : w5.cell? ⟨w.heap.size,5,none⟩ = some (.int .i64 0) := cell_of hz5 5
  have z6 : w5.cell? ⟨w.heap.size,6,none⟩ = some (.int .i64 0) := cell_of hz5 6
  have z7 : w5.cell? ⟨w.heap.size,7,none⟩ = some (.int .i64 0) := cell_of hz5 7
  have f0 : w5.frozen? ⟨w.heap.size,0,none⟩ = false := free_of hz5 0
  have f1 : w5.frozen? ⟨w.heap.size,1,none⟩ = false := free_of hz5 1
  have f2 : w5.frozen? ⟨w.heap.size,2,none⟩ = false := free_of hz5 2
  have f3 : w5.frozen? ⟨w.heap.size,3,none⟩ = false := free_of hz5 3
  have f4 : w5.frozen? ⟨w.heap.size,4,none⟩ = false := free_of hz5 4
  have f5 : w5.frozen? ⟨w.heap.size,5,none⟩ = false := free_of hz5 5
  have f6 : w5.frozen? ⟨w.heap.size,6,none⟩ = false := free_of hz5 6
  have f7 : w5.frozen? ⟨w.heap.size,7,none⟩ = false := free_of hz5 7
  clear hz5 hb5
  unfold gotV
  go_wp2_with fail
  refine got_ret G5.out.below G5.out.blk rfl ?_
  intro Wf hR y0 y1 y2 y3 y4 y5 y6 y7
  exact bodyPost_ret (v := gotV gk gn gt ga false gto ge gat) (by simp [results,Tryz.results42,go_sem,y0,y1,y2,y3,y4,y5,y6,y7,gotV]) rfl ⟨rfl,hR⟩
 ·have HI : Asd (V = gotOf (signI (rest s p)) p) := ⟨by rw [HV2.out,h34];rfl⟩
  clear HV2
  obtain ⟨gk,gn,gt,ga,gto,ge,gat,hform⟩ := gotOf_form (signI (rest s p)) p
  have X := Asd.mk (fun w => rsign_any s p w hs hp)
  rw [hform] at X
  have HF : Asd (V = gotV gk gn gt ga false gto ge gat) := ⟨by rw [← hform];exact HI.out⟩
  clear hform HI
  obtain rfl := HF.out
  clear HF
  go_enter Tryz.func42,Tryz.ntmps42
  go_wp2_with fail
  generalize (w.alloc (.cells #[.int .i64 0,.int .i64 0,.string ⟨#[]⟩,.int .i64 0,.bool false,.int .i64 0,.int .i64 0,.int .i64 0] 82)) = W at F ⊢
  refine (dig.out _).mono ?_
  rintro e w1 ⟨rfl,rfl⟩
  go_wp2_with fail
  refine (let'.out _).mono ?_
  rintro e w1 ⟨rfl,rfl⟩
  go_wp2_with fail
  refine (X.out _).mono ?_
  rintro e w5 ⟨rfl,hb5⟩
  have G5 := Asd.mk (F.out.step hb5)
  have hz5 := G5.out.blk
  have z0 : w5.cell? ⟨w.heap.size,0,none⟩ = some (.int .i64 0) := cell_of hz5 0
  have z1 : w5.cell? ⟨w.heap.size,1,none⟩ = some (.int .i64 0) := cell_of hz5 1
  have z2 : w5.cell? ⟨w.heap.size,2,none⟩ = some (.string ⟨#[]⟩) := cell_of hz5 2
  have z3 : w5.cell? ⟨w.heap.size,3,none⟩ = some (.int .i64 0) := cell_of hz5 3
  have z4 : w5.cell? ⟨w.heap.size,4,none⟩ = some (.bool false) := cell_of hz5 4
  have z5 : w5.cell? ⟨w.heap.size,5,none⟩ = some (.int .i64 0) := cell_of hz5 5
  have z6 : w5.cell? ⟨w.heap.size,6,none⟩ = some (.int .i64 0) := cell_of hz5 6
  have z7 : w5.cell? ⟨w.heap.size,7,none⟩ = some (.int .i64 0) := cell_of hz5 7
  have f0 : w5.frozen? ⟨w.heap.size,0,none⟩ = false := free_of hz5 0
  have f1 : w5.frozen? ⟨w.heap.size,1,none⟩ = false := free_of hz5 1
  have f2 : w5.frozen? ⟨w.heap.size,2,none⟩ = false := free_of hz5 2
  have f3 : w5.frozen? ⟨w.heap.size,3,none⟩ = false := free_of hz5 3
  have f4 : w5.frozen? ⟨w.heap.size,4,none⟩ = false := free_of hz5 4
  have f5 : w5.frozen? ⟨w.heap.size,5,none⟩ = false := free_of hz5 5
  have f6 : w5.frozen? ⟨w.heap.size,6,none⟩ = false := free_of hz5 6
  have f7 : w5.frozen? ⟨w.heap.size,7,none⟩ = false := free_of hz5 7
  clear hz5 hb5
  unfold gotV
  go_wp2_with fail
  refine got_ret G5.out.below G5.out.blk rfl ?_
  intro Wf hR y0 y1 y2 y3 y4 y5 y6 y7
  exact bodyPost_ret (v := gotV gk gn gt ga false gto ge gat) (by simp [results,Tryz.results42,go_sem,y0,y1,y2,y3,y4,y5,y6,y7,gotV]) rfl ⟨rfl,hR⟩
theorem lexF_skip {l : List UInt8} {d : Nat} (h : gapN false l = d + gapN false (l.drop d)) (f p : Nat) (acc : List Tk) : lexF f l p acc = lexF f (l.drop d) (p + d) acc := by
 cases f with
 | zero => rfl
 | succ f =>
  have hd : (l.drop d).drop (gapN false (l.drop d)) = l.drop (gapN false l) := by rw [List.drop_drop,h]
  have hp : p + d + gapN false (l.drop d) = p + gapN false l := by omega
  cases hit : itemE (l.drop (gapN false l)) with
  | bad c o => rw [lexF_bad hit,lexF_bad (by rw [hd];exact hit),hp]
  | tok k n t wd =>
   rcases Bool.eq_false_or_eq_true (k == 0) with hk | hk
   ·rw [lexF_end hit hk,lexF_end (by rw [hd];exact hit) hk,hp]
   ·rw [lexF_tok hit hk,lexF_tok (by rw [hd];exact hit) hk,hp,List.drop_drop]
    congr 2
    omega
theorem textF_bad : ∀ (f : Nat) (l : List UInt8) (off : Nat) (acc : List UInt8) (c : Int) (o : Nat),textF f l off acc = .bad c o -> (c == 0) = false
 | 0,_,_,_,_,_,h => by cases h;rfl
 | f + 1,[],_,_,_,_,h => by cases h;rfl
 | f + 1,a :: r,off,acc,c,o,h => by
  simp only [textF] at h
  split at h
  ·cases h
  ·split at h
   ·cases h;rfl
   ·split at h
    ·cases h;rfl
    ·exact textF_bad f _ _ _ _ _ h
theorem itemI_bad {l : List UInt8} {c : Int} {o : Nat} (h : itemI l = .bad c o) : (c == 0) = false := by
 unfold itemI at h
 split at h
 ·unfold numI at h
  split at h
  ·cases h;rfl
  ·split at h
   ·cases h
   ·cases h;rfl
 ·split at h
  ·unfold wordI at h
   split at h
   ·cases h;rfl
   ·split at h
    ·cases h
    ·split at h
     ·cases h
     ·cases h;rfl
  ·split at h
   ·exact textF_bad _ _ _ _ _ _ h
   ·unfold signI at h
    split at h
    ·cases h;rfl
    ·cases h
def RAllP (o : Out) (w : World) (e : Ending) (w' : World) : Prop :=
 match o with
 | .ok ts => ∃ v,e = .returned (.tuple #[v,.int .i64 0,.int .i64 0]) ∧ ToksAt w' v ts ∧ Below w.heap.size w w'
 | .bad c a => e = .returned (.tuple #[.slice none 0 0,.int .i64 c,.int .i64 a]) ∧ (c == 0) = false ∧ Below w.heap.size w w'
def RAllPo (o : Out) (w : World) (e : Ending) (w' : World) : Prop := RAllP o w e w' ∧ ∀ ts,o = .ok ts -> ∀ v u u',e = .returned (.tuple #[v,u,u']) -> NewRow w w' v
def RAllRel (R : Out) (s : ByteArray) (W : World) (gk : Nat) (v v6 : Value) (wr : World) : Prop :=
 ∃ (q : Nat) (acc : List Tk),v6 = .int .i64 q ∧ q ≤ s.size ∧ s.size - q ≤ gk ∧ Below W.heap.size W wr ∧ wr.ownsRow W.heap.size 56 4 v acc.length (flat acc) ∧ acc.length ≤ q ∧ lexF (s.size + 1) (rest s q) q acc = R
inductive RStep (s : ByteArray) (q : Nat) (acc : List Tk) (R : Out) : Prop where
  | skip (d : Nat) (h1 : 1 ≤ d) (h2 : q + d ≤ s.size) (hv : stepV s q = gotV 0 0 ⟨#[]⟩ 0 true ((q : Int) + (d : Int)) 0 0) (hR : lexF (s.size + 1) (rest s (q + d)) (q + d) acc = R)
  | bad (c : Int) (o : Nat) (hc : (c == 0) = false) (hv : stepV s q = gotV 0 0 ⟨#[]⟩ 0 false 0 c ((q : Int) + (o : Int))) (hR : R = .bad c (q + o))
  | tok (k n : Int) (t : List UInt8) (wd : Nat) (h1 : 1 ≤ wd) (h2 : q + wd ≤ s.size) (hv : stepV s q = gotV k n (bytesOf t) q false ((q : Int) + (wd : Int)) 0 0) (hR : lexF (s.size + 1) (rest s (q + wd)) (q + wd) (acc ++ [⟨k, n, t, q⟩]) = R)
theorem rstep_of {s : ByteArray} {q : Nat} {acc : List Tk} {R : Out} (hq : q < s.size) (h : lexF (s.size + 1) (rest s q) q acc = R) : RStep s q acc R := by
 have hb0 : bI (rest s q) 0 = (s[q].toNat : Int) := rest_bI s q 0 (by omega)
 rcases Bool.eq_false_or_eq_true (blankB (s[q].toNat : Int)) with hbl | hbl
 ·have hg := gap_blank s q hq hbl
  refine .skip 1 (Nat.le_refl _) (by omega) ?_ ?_
  ·unfold stepV;rw [hb0,hbl];rfl
  ·rw [← h,lexF_skip (l := rest s q) (d := 1) (by rw [rest_drop,hg];omega),rest_drop]
 ·rcases Bool.eq_false_or_eq_true ((s[q].toNat : Int) == 59) with h59 | h59
  ·have hg := gap_comment s q hq h59
   have hle := runN_le notNl (rest s q)
   rw [rest_len] at hle
   refine .skip (runN notNl (rest s q)) hg.2 (by omega) ?_ ?_
   ·unfold stepV;rw [hb0,hbl,h59];rfl
   ·rw [← h,lexF_skip (l := rest s q) (d := runN notNl (rest s q)) (by rw [rest_drop];exact hg.1),rest_drop]
  ·have hg := gap_none s q hq hbl h59
   have hv : stepV s q = gotOf (itemI (rest s q)) q := by unfold stepV;rw [hb0,hbl,h59];rfl
   have hie : itemE (rest s q) = itemI (rest s q) := by unfold itemE;rw [if_neg (by rw [rest_len];omega)]
   cases hit : itemI (rest s q) with
   | bad c o =>
    have hit' : itemE ((rest s q).drop (gapN false (rest s q))) = .bad c o := by rw [hg,List.drop_zero,hie,hit]
    rw [lexF_bad hit',hg] at h
    exact .bad c o (itemI_bad hit) (by rw [hv,hit];rfl) (by rw [← h];rfl)
   | tok k n t wd =>
    have hit' : itemE ((rest s q).drop (gapN false (rest s q))) = .tok k n t wd := by rw [hg,List.drop_zero,hie,hit]
    have hok := itemE_ok hit'
    rw [hg,List.drop_zero,rest_len] at hok
    have hk : (k == 0) = false := by
     rcases Bool.eq_false_or_eq_true (k == 0) with hk | hk
     ·have := (hok.2.1 hk).1
      have hl := rest_len s q
      rw [this] at hl
      simp at hl
      omega
     ·exact hk
    have h1 := hok.2.2.1 hk
    rw [lexF_tok hit' hk,hg,Nat.zero_add,rest_drop] at h
    refine .tok k n t wd h1 (by omega) (by rw [hv,hit];rfl) ?_
    rw [← h]
    exact lexF_fuel _ _ _ _ _ (by rw [rest_len];omega) (by rw [rest_len];omega)
theorem rall_news {w : World} {O : Obj} (x : Tk) : ∀ j u,x.cells[j]? = some u -> ((w.alloc O).alloc (.cells #[.int .i64 x.k,.int .i64 x.n,.string (bytesOf x.t),.int .i64 x.a] 56)).cell? ((⟨w.heap.size + 1,0,none⟩ : Addr).add j) = some u := by
 intro j u hj
 have := all_news (w := w.alloc O) x j u hj
 simpa using this
theorem rall_own (s : ByteArray) (w : World) (hs : s.size ≤ maxLen) :
  Calls Tryz.prog 21 #[.string s] w fun e w' => RAllPo (lexAll s.data.toList) w e w' := by
 unfold maxLen at hs
 generalize hR : lexAll s.data.toList = R
 by_cases hlong : 65536 < s.size
 ·obtain rfl : R = .bad 6 0 := by rw [← hR];unfold lexAll;rw [if_pos (by rw [size_list];exact hlong)]
  clear hR
  go_enter Tryz.func21,Tryz.ntmps21
  go_wp2_with fail
  go_ret3
  exact ⟨⟨rfl,rfl,Below.refl _ _⟩,fun _ h => by cases h⟩
 have HR : Asd (lexF (s.size + 1) (rest s 0) 0 [] = R) := ⟨by rw [← hR];unfold lexAll;rw [if_neg (by rw [size_list];exact hlong)];unfold lexL;rw [size_list];rfl⟩
 clear hR
 go_enter Tryz.func21,Tryz.ntmps21
 go_wp2_with fail
 have E1 : Asd (RAllRel R s w s.size (.slice none 0 0) (.int .i64 0) w) := ⟨0,[],rfl,Nat.zero_le _,Nat.le_refl _,Below.refl _ _,⟨rfl,.inl ⟨rfl,rfl⟩⟩,Nat.le_refl _,HR.out⟩
 clear HR
 go_loopg [5,6] s.size (fun gk v5 v6 wr => RAllRel R s w gk v5 v6 wr)
 case atStart => exact E1.out
 case round =>
  clear E1
  obtain ⟨q,acc,rfl,hqs,hgk,hbw,hown,hlen,hlx⟩ := hrel
  obtain ⟨ao,cap,rfl⟩ : ∃ ao cap,u5 = .slice ao acc.length cap := by
   rcases hown.2 with ⟨hv,h0⟩ | ⟨g,cap,cur,hv,_⟩
   ·exact ⟨none,0,by rw [hv,h0]⟩
   ·exact ⟨_,_,hv⟩
  have A := Asd.mk (And.intro hbw (And.intro hown hlx))
  clear hbw hown hlx
  obtain ⟨i0,hi,hz0,hz1,hz2⟩ := infoParts info_tok
  have hacc : acc.length ≤ 65536 := by omega
  by_cases hlt : q < s.size
  ·have X := Asd.mk (fun w => rnext_any s q w (by omega) hlt)
   rcases rstep_of hlt A.out.2.2 with ⟨d,h1,h2,hv,hR⟩ | ⟨c,o,hc,hv,hR⟩ | ⟨k,n,t,wd,h1,h2,hv,hR⟩
   ·rw [hv] at X
    have HR := Asd.mk hR
    clear hv hR
    go_wp2_with fail
    refine (X.out _).mono ?_
    rintro e w5 ⟨rfl,hb5⟩
    have B5 := Asd.mk (A.out.1.trans (hb5.mono A.out.1.size))
    have O5 := Asd.mk (own_below4 A.out.2.1 (fun i hi _ => hb5.block i hi))
    clear hb5
    unfold gotV
    go_wp2_with fail
    go_roundg (gk - 1)
    case measure => omega
    case rel => exact ⟨q + d,acc,by go_num,h2,by omega,B5.out.alloc B5.out.size _,O5.out.alloc _,by omega,HR.out⟩
   ·obtain rfl := hR
    rw [hv] at X
    have HC := Asd.mk hc
    have hcn : (c != 0) = true := by simp only [bne,hc,Bool.not_false]
    clear hv
    go_wp2_with fail
    refine (X.out _).mono ?_
    rintro e w5 ⟨rfl,hb5⟩
    have B5 := Asd.mk (A.out.1.trans (hb5.mono A.out.1.size))
    clear hb5
    unfold gotV
    go_wp2_with fail
    have B6 := Asd.mk (B5.out.alloc B5.out.size (.cells #[.int .i64 0,.int .i64 0,.string ⟨#[]⟩,.int .i64 0,.bool false,.int .i64 0,.int .i64 c,.int .i64 ((q : Int) + (o : Int))] 82))
    go_quiet (fail)
    go_wp2_with fail
    go_ret3
    exact ⟨⟨rfl,HC.out,⟨B6.out.os,B6.out.tape,B6.out.output,B6.out.size,B6.out.block⟩⟩,fun _ h => by cases h⟩
   ·rw [hv] at X
    have HR := Asd.mk hR
    have hfl := Asd.mk (flat_snoc acc ⟨k,n,t,q⟩)
    clear hv hR
    go_wp2_with fail
    refine (X.out _).mono ?_
    rintro e w5 ⟨rfl,hb5⟩
    have B5 := Asd.mk (A.out.1.trans (hb5.mono A.out.1.size))
    have own5 : w5.ownsRow w.heap.size 56 4 (.slice ao acc.length cap) acc.length (flat acc) := own_below4 A.out.2.1 (fun i hi _ => hb5.block i hi)
    clear hb5
    unfold gotV
    go_wp2_with (at_builtin;refine wpList_append_own _ rfl _ _ 38 rfl w.heap.size 56 i0 (.agg #[.int .i64 0,.int .i64 0,.string ⟨#[]⟩,.int .i64 0]) 4 40 Tryz.underlying38 hi hz0 hz1 hz2 rfl (by decide) _ _ _ rfl ((own5.alloc _).alloc _) ⟨w5.heap.size + 1,0,none⟩ 1 1 [.int .i64 k,.int .i64 n,.string (bytesOf t),.int .i64 q] rfl rfl (rall_news ⟨k,n,t,q⟩) (by intro u hu;simp at hu;rcases hu with rfl | rfl | rfl | rfl <;> rfl) (by unfold maxLen;omega) (by omega) (by have := B5.out.size;simp;omega) ?_)
    intro v' w6 hown6 hgrow _
    have c6 : w6.cell? ⟨w5.heap.size,5,none⟩ = some (.int .i64 ((q : Int) + (wd : Int))) := by
     refine (World.cell?_of_block (w := (w5.alloc (.cells #[.int .i64 k,.int .i64 n,.string (bytesOf t),.int .i64 q,.bool false,.int .i64 ((q : Int) + (wd : Int)),.int .i64 0,.int .i64 0] 82)).alloc (.cells #[.int .i64 k,.int .i64 n,.string (bytesOf t),.int .i64 q] 56)) (a := ⟨w5.heap.size,5,none⟩) (hgrow.block w5.heap.size (by simp;omega) (fun e => by have := (own5.lt _ e.symm).2;omega))).trans ?_
     rw [World.cell?_alloc_lt _ _ _ (by simp)]
     exact cellNew _ _ _ 5 _ rfl
    have B6 := Asd.mk (Below.grown ((B5.out.alloc B5.out.size _).alloc (by have := B5.out.size;simp;omega) _) hgrow (by have := B5.out.size;simp;omega) (fun k hk => (own5.lt k hk).1))
    have O6 : Asd (w6.ownsRow w.heap.size 56 4 v' (acc ++ [(⟨k,n,t,q⟩ : Tk)]).length (flat (acc ++ [(⟨k,n,t,q⟩ : Tk)]))) := ⟨by rw [hfl.out,List.length_append];exact hown6⟩
    clear hown6 hgrow own5 hfl
    go_wp2_with fail
    go_roundg (gk - 1)
    case measure => omega
    case rel => exact ⟨q + wd,acc ++ [⟨k,n,t,q⟩],by go_num,h2,by omega,B6.out,O6.out,by simp;omega,HR.out⟩
  ·have hqq : q = s.size := by omega
   have hre : rest s q = [] := rest_end s q (by omega)
   obtain rfl : R = .ok (acc ++ [⟨0,0,[],s.size⟩]) := by
    rw [← A.out.2.2,hre,lexF_end (k := 0) (n := 0) (t := []) (wd := 0) rfl rfl]
    simp [gapN,hqq]
   have hfl := Asd.mk (flat_snoc acc ⟨0,0,[],s.size⟩)
   have own5 := A.out.2.1
   have B5 := Asd.mk A.out.1
   have HQ := Asd.mk hqq
   clear hre hqq A
   go_wp2_with (at_builtin;refine wpList_append_own _ rfl _ _ 38 rfl w.heap.size 56 i0 (.agg #[.int .i64 0,.int .i64 0,.string ⟨#[]⟩,.int .i64 0]) 4 40 Tryz.underlying38 hi hz0 hz1 hz2 rfl (by decide) _ _ _ rfl (own5.alloc _) ⟨wr.heap.size,0,none⟩ 1 1 [.int .i64 0,.int .i64 0,.string ⟨#[]⟩,.int .i64 s.size] rfl rfl (all_news ⟨0,0,[],s.size⟩) (by intro u hu;simp at hu;rcases hu with rfl | rfl | rfl <;> rfl) (by unfold maxLen;omega) (by omega) (by have := B5.out.size;simp;omega) ?_)
   intro v' w6 hown6 hgrow _
   have B6 := Asd.mk (Below.grown (B5.out.alloc B5.out.size _) hgrow (by have := B5.out.size;simp;omega) (fun k hk => (own5.lt k hk).1))
   have O6 : Asd (w6.ownsRow w.heap.size 56 4 v' (acc ++ [(⟨0,0,[],s.size⟩ : Tk)]).length (flat (acc ++ [(⟨0,0,[],s.size⟩ : Tk)]))) := ⟨by rw [hfl.out,List.length_append];exact hown6⟩
   clear hown6 hgrow own5 hfl
   go_wp2_with fail
   go_ret3
   exact ⟨⟨v',rfl,toks_of_own O6.out (by simp) (by simp;omega),B6.out⟩,fun ts e v u u' h => by
    simp at h
    obtain ⟨rfl,rfl,rfl⟩ := h
    exact new_of_own O6.out (by simp) (Nat.le_refl _)⟩
end Go.Proofs.YtkoabcncdjmoeaaGreatDoor

/- The document's lexer: word. -/
import Derived.Test.YtkoabcncdjmoeaaGreatDoorOa
set_option linter.unusedSimpArgs false
set_option linter.unusedVariables false
set_option maxRecDepth 1000000
set_option maxHeartbeats 40000000
namespace Go.Proofs.YtkoabcncdjmoeaaGreatDoor
open Go.RowKit
theorem kind_vals (l : List UInt8) : kindI l = 0 ∨ kindI l = 1 ∨ kindI l = 2 ∨ kindI l = 3 ∨ kindI l = 4 := by
 unfold kindI
 have hs : shapeI l = 0 ∨ shapeI l = 1 ∨ shapeI l = 2 := by
  have hb : ∀ c : Int,begunI c = 0 ∨ begunI c = 1 ∨ begunI c = 2 := fun c => by
   unfold begunI
   split
   ·exact .inr (.inl rfl)
   ·split
    ·exact .inr (.inr rfl)
    ·exact .inl rfl
  cases l with
  | nil => exact .inl rfl
  | cons a r =>
   have e : shapeI (a :: r) = if r.all (fun c => contB (begunI (a.toNat : Int)) (c.toNat : Int)) = true then begunI (a.toNat : Int) else 0 := rfl
   rw [e]
   split
   ·exact hb _
   ·exact .inl rfl
 split
 ·split
  ·exact .inl rfl
  ·rcases hs with h | h | h
   ·exact .inl h
   ·exact .inr (.inl h)
   ·exact .inr (.inr (.inl h))
 ·rcases kept_vals l with h | h | h
  ·exact .inl h
  ·exact .inr (.inr (.inr (.inl h)))
  ·exact .inr (.inr (.inr (.inr h)))
theorem rword_any (s : ByteArray) (p : Nat) (w : World) (hs : s.size ≤ maxLen) (hp : p < s.size) :
  Calls Tryz.prog 63 #[.string s,.int .i64 p] w fun e w' => e = .returned (gotOf (wordI (rest s p)) p) ∧ Below w.heap.size w w' := by
 have HS := Asd.mk hs
 unfold maxLen at hs
 generalize hI : wordI (rest s p) = I
 have HI := Asd.mk hI
 clear hI
 have HN : Asd (∃ N,N = runN alnB (rest s p)) := ⟨_,rfl⟩
 obtain ⟨N,hN⟩ := HN.out
 clear HN
 have HN := Asd.mk hN
 have hNle : p + N ≤ s.size := by have := runN_le alnB (rest s p);rw [rest_len] at this;omega
 clear hN
 have F := Asd.mk (G8.start w _ rfl)
 go_enter Tryz.func63,Tryz.ntmps63
 go_wp2_with fail
 generalize (w.alloc (.cells #[.int .i64 0,.int .i64 0,.string ⟨#[]⟩,.int .i64 0,.bool false,.int .i64 0,.int .i64 0,.int .i64 0] 82)) = W at F ⊢
 go_loop [5] (fun v5 => ∃ k : Nat,v5 = .int .i64 ((p : Int) + (k : Int)) ∧ p + k ≤ s.size ∧ k + runN alnB (rest s (p + k)) = N) (fun v5 => s.size - (intOf v5).toNat)
 case atStart => exact ⟨0,by simp,by omega,by rw [Nat.add_zero,Nat.zero_add];exact HN.out.symm⟩
 case round =>
  obtain ⟨k,rfl,hk,hr⟩ := hrel
  obtain ⟨m,hm⟩ : ∃ m,m = p + k := ⟨_,rfl⟩
  have hmi : (p : Int) + (k : Int) = (m : Int) := by omega
  rw [hmi]
  rw [← hm] at hr hk
  have HM := Asd.mk (And.intro hm hr)
  clear hm hr hmi
  by_cases hlt : m < s.size
  ·have X := Asd.mk (fun w => rletter_any (s[m].toNat : Int) w)
   rcases Bool.eq_false_or_eq_true (alnB (s[m].toNat : Int)) with hq | hq
   ·have HX := Asd.mk hq
    rw [hq] at X
    clear hq
    go_wp2_with fail
    refine (X.out _).mono ?_
    rintro e w' ⟨rfl,rfl⟩
    go_wp2_with fail
    go_round
    case rel => exact ⟨k + 1,by have := HM.out.1;skip;exact congrArg (Value.int .i64) (by omega),by have := HM.out.1;omega,by
     have h1 := HM.out.2
     rw [rest_lt s m hlt,runN,if_pos HX.out] at h1
     rw [← Nat.add_assoc,← HM.out.1]
     omega⟩
    case measure => simp [intOf];omega
   ·have HX := Asd.mk hq
    rw [hq] at X
    clear hq
    have hkN : k = N := by
     have h1 := HM.out.2
     rw [rest_lt s m hlt,runN,if_neg (by rw [HX.out];simp)] at h1
     omega
    have hmN : m = p + N := by have := HM.out.1;omega
    have HMN := Asd.mk hmN
    clear HM hkN hmN
    go_wp2_with fail
    refine (X.out _).mono ?_
    rintro e w' ⟨rfl,rfl⟩
    have hple : p ≤ m := by have := HMN.out;omega
    have hplei : (p : Int) ≤ (m : Int) := by omega
    have hmlei : (m : Int) ≤ (s.size : Int) := by omega
    by_cases h8 : 8 < N
    ·obtain rfl : I = .bad 6 0 := by rw [← HI.out];unfold wordI;rw [← HN.out,if_pos h8]
     have h8'' : (8 : Int) < (m : Int) - (p : Int) := by have := HMN.out;omega
     go_wp2_with fail
     refine (rbad_any 6 p _).mono ?_
     rintro e w6 ⟨rfl,hb6⟩
     have G6 := Asd.mk (F.out.step hb6)
     have hz6 := G6.out.blk
     have z0 : w6.cell? ⟨w.heap.size,0,none⟩ = some (.int .i64 0) := cell_of hz6 0
     have z1 : w6.cell? ⟨w.heap.size,1,none⟩ = some (.int .i64 0) := cell_of hz6 1
     have z2 : w6.cell? ⟨w.heap.size,2,none⟩ = some (.string ⟨#[]⟩) := cell_of hz6 2
     have z3 : w6.cell? ⟨w.heap.size,3,none⟩ = some (.int .i64 0) := cell_of hz6 3
     have z4 : w6.cell? ⟨w.heap.size,4,none⟩ = some (.bool false) := cell_of hz6 4
     have z5 : w6.cell? ⟨w.heap.size,5,none⟩ = some (.int .i64 0) := cell_of hz6 5
     have z6 : w6.cell? ⟨w.heap.size,6,none⟩ = some (.int .i64 0) := cell_of hz6 6
     have z7 : w6.cell? ⟨w.heap.size,7,none⟩ = some (.int .i64 0) := cell_of hz6 7
     have f0 : w6.frozen? ⟨w.heap.size,0,none⟩ = false := free_of hz6 0
     have f1 : w6.frozen? ⟨w.heap.size,1,none⟩ = false := free_of hz6 1
     have f2 : w6.frozen? ⟨w.heap.size,2,none⟩ = false := free_of hz6 2
     have f3 : w6.frozen? ⟨w.heap.size,3,none⟩ = false := free_of hz6 3
     have f4 : w6.frozen? ⟨w.heap.size,4,none⟩ = false := free_of hz6 4
     have f5 : w6.frozen? ⟨w.heap.size,5,none⟩ = false := free_of hz6 5
     have f6 : w6.frozen? ⟨w.heap.size,6,none⟩ = false := free_of hz6 6
     have f7 : w6.frozen? ⟨w.heap.size,7,none⟩ = false := free_of hz6 7
     clear hz6 hb6
     unfold gotV
     go_wp2_with fail
     refine got_ret G6.out.below G6.out.blk rfl ?_
     intro Wf hR y0 y1 y2 y3 y4 y5 y6 y7
     exact bodyPost_ret (v := gotV 0 0 ⟨#[]⟩ 0 false 0 6 ((p : Int) + ((0 : Nat) : Int))) (by simp [results,Tryz.results63,go_sem,y0,y1,y2,y3,y4,y5,y6,y7,gotV]) rfl ⟨rfl,hR⟩
    ·have h8'' : ¬ (8 : Int) < (m : Int) - (p : Int) := by have := HMN.out;omega
     have T1 : (s.extract p m).data.toList = (rest s p).take N := by rw [HMN.out,ext_eq];rfl
     have T2 : (s.extract p m).size = N := by rw [← size_list,T1,List.length_take,rest_len];omega
     have T3 : bytesOf ((rest s p).take N) = s.extract p m := by rw [HMN.out,ext_eq]
     have XK := Asd.mk (fun w => rkind_any (s.extract p m) w (by rw [T2];unfold maxLen;omega))
     rw [T1] at XK
     have hI2 : I = if (kindI ((rest s p).take N) == 1 || kindI ((rest s p).take N) == 3) = true then .tok 3 0 ((rest s p).take N) N else if (kindI ((rest s p).take N) == 2 || kindI ((rest s p).take N) == 4) = true then .tok 4 0 ((rest s p).take N) N else .bad 2 0 := by
      rw [← HI.out];unfold wordI;rw [← HN.out,if_neg h8]
     have hkv := kind_vals ((rest s p).take N)
     generalize kindI ((rest s p).take N) = kk at XK hI2 hkv
     have HT := Asd.mk T3
     clear T1 T2 T3
     rcases hkv with rfl | rfl | rfl | rfl | rfl
     ·obtain rfl : I = .bad 2 0 := by rw [hI2];rfl
      clear hI2
      go_wp2_with fail
      refine (XK.out _).mono ?_
      rintro e w5 ⟨rfl,hb5⟩
      have G5 := Asd.mk (F.out.step hb5)
      clear hb5
      go_wp2_with fail
      refine (rbad_any 2 p _).mono ?_
      rintro e w6 ⟨rfl,hb6⟩
      have G6 := Asd.mk (G5.out.step hb6)
      have hz6 := G6.out.blk
      have z0 : w6.cell? ⟨w.heap.size,0,none⟩ = some (.int .i64 0) := cell_of hz6 0
      have z1 : w6.cell? ⟨w.heap.size,1,none⟩ = some (.int .i64 0) := cell_of hz6 1
      have z2 : w6.cell? ⟨w.heap.size,2,none⟩ = some (.string ⟨#[]⟩) := cell_of hz6 2
      have z3 : w6.cell? ⟨w.heap.size,3,none⟩ = some (.int .i64 0) := cell_of hz6 3
      have z4 : w6.cell? ⟨w.heap.size,4,none⟩ = some (.bool false) := cell_of hz6 4
      have z5 : w6.cell? ⟨w.heap.size,5,none⟩ = some (.int .i64 0) := cell_of hz6 5
      have z6 : w6.cell? ⟨w.heap.size,6,none⟩ = some (.int .i64 0) := cell_of hz6 6
      have z7 : w6.cell? ⟨w.heap.size,7,none⟩ = some (.int .i64 0) := cell_of hz6 7
      have f0 : w6.frozen? ⟨w.heap.size,0,none⟩ = false := free_of hz6 0
      have f1 : w6.frozen? ⟨w.heap.size,1,none⟩ = false := free_of hz6 1
      have f2 : w6.frozen? ⟨w.heap.size,2,none⟩ = false := free_of hz6 2
      have f3 : w6.frozen? ⟨w.heap.size,3,none⟩ = false := free_of hz6 3
      have f4 : w6.frozen? ⟨w.heap.size,4,none⟩ = false := free_of hz6 4
      have f5 : w6.frozen? ⟨w.heap.size,5,none⟩ = false := free_of hz6 5
      have f6 : w6.frozen? ⟨w.heap.size,6,none⟩ = false := free_of hz6 6
      have f7 : w6.frozen? ⟨w.heap.size,7,none⟩ = false := free_of hz6 7
      clear hz6 hb6
      unfold gotV
      go_wp2_with fail
      refine got_ret G6.out.below G6.out.blk rfl ?_
      intro Wf hR y0 y1 y2 y3 y4 y5 y6 y7
      exact bodyPost_ret (v := gotV 0 0 ⟨#[]⟩ 0 false 0 2 ((p : Int) + ((0 : Nat) : Int))) (by simp [results,Tryz.results63,go_sem,y0,y1,y2,y3,y4,y5,y6,y7,gotV]) rfl ⟨rfl,hR⟩
     ·obtain rfl : I = .tok 3 0 ((rest s p).take N) N := by rw [hI2];rfl
      clear hI2
      go_wp2_with fail
      refine (XK.out _).mono ?_
      rintro e w5 ⟨rfl,hb5⟩
      have G5 := Asd.mk (F.out.step hb5)
      have hz5 := G5.out.blk
      have z0 : w5.cell? ⟨w.heap.size,0,none⟩ = some (.int .i64 0) := cell_of hz5 0
      have z1 : w5.cell? ⟨w.heap.size,1,none⟩ = some (.int .i64 0) := cell_of hz5 1
      have z2 : w5.cell? ⟨w.heap.size,2,none⟩ = some (.string ⟨#[]⟩) := cell_of hz5 2
      have z3 : w5.cell? ⟨w.heap.size,3,none⟩ = some (.int .i64 0) := cell_of hz5 3
      have z4 : w5.cell? ⟨w.heap.size,4,none⟩ = some (.bool false) := cell_of hz5 4
      have z5 : w5.cell? ⟨w.heap.size,5,none⟩ = some (.int .i64 0) := cell_of hz5 5
      have z6 : w5.cell? ⟨w.heap.size,6,none⟩ = some (.int .i64 0) := cell_of hz5 6
      have z7 : w5.cell? ⟨w.heap.size,7,none⟩ = some (.int .i64 0) := cell_of hz5 7
      have f0 : w5.frozen? ⟨w.heap.size,0,none⟩ = false := free_of hz5 0
      have f1 : w5.frozen? ⟨w.heap.size,1,none⟩ = false := free_of hz5 1
      have f2 : w5.frozen? ⟨w.heap.size,2,none⟩ = false := free_of hz5 2
      have f3 : w5.frozen? ⟨w.heap.size,3,none⟩ = false := free_of hz5 3
      have f4 : w5.frozen? ⟨w.heap.size,4,none⟩ = false := free_of hz5 4
      have f5 : w5.frozen? ⟨w.heap.size,5,none⟩ = false := free_of hz5 5
      have f6 : w5.frozen? ⟨w.heap.size,6,none⟩ = false := free_of hz5 6
      have f7 : w5.frozen? ⟨w.heap.size,7,none⟩ = false := free_of hz5 7
      clear hz5 hb5
      go_wp2_with fail
      refine got_ret G5.out.below G5.out.blk rfl ?_
      intro Wf hR y0 y1 y2 y3 y4 y5 y6 y7
      exact bodyPost_ret (v := gotV 3 0 (bytesOf ((rest s p).take N)) p false ((p : Int) + (N : Int)) 0 0) (by simp [results,Tryz.results63,go_sem,y0,y1,y2,y3,y4,y5,y6,y7,gotV,HT.out,HMN.out]) rfl ⟨rfl,hR⟩
     ·obtain rfl : I = .tok 4 0 ((rest s p).take N) N := by rw [hI2];rfl
      clear hI2
      go_wp2_with fail
      refine (XK.out _).mono ?_
      rintro e w5 ⟨rfl,hb5⟩
      have G5 := Asd.mk (F.out.step hb5)
      have hz5 := G5.out.blk
      have z0 : w5.cell? ⟨w.heap.size,0,none⟩ = some (.int .i64 0) := cell_of hz5 0
      have z1 : w5.cell? ⟨w.heap.size,1,none⟩ = some (.int .i64 0) := cell_of hz5 1
      have z2 : w5.cell? ⟨w.heap.size,2,none⟩ = some (.string ⟨#[]⟩) := cell_of hz5 2
      have z3 : w5.cell? ⟨w.heap.size,3,none⟩ = some (.int .i64 0) := cell_of hz5 3
      have z4 : w5.cell? ⟨w.heap.size,4,none⟩ = some (.bool false) := cell_of hz5 4
      have z5 : w5.cell? ⟨w.heap.size,5,none⟩ = some (.int .i64 0) := cell_of hz5 5
      have z6 : w5.cell? ⟨w.heap.size,6,none⟩ = some (.int .i64 0) := cell_of hz5 6
      have z7 : w5.cell? ⟨w.heap.size,7,none⟩ = some (.int .i64 0) := cell_of hz5 7
      have f0 : w5.frozen? ⟨w.heap.size,0,none⟩ = false := free_of hz5 0
      have f1 : w5.frozen? ⟨w.heap.size,1,none⟩ = false := free_of hz5 1
      have f2 : w5.frozen? ⟨w.heap.size,2,none⟩ = false := free_of hz5 2
      have f3 : w5.frozen? ⟨w.heap.size,3,none⟩ = false := free_of hz5 3
      have f4 : w5.frozen? ⟨w.heap.size,4,none⟩ = false := free_of hz5 4
      have f5 : w5.frozen? ⟨w.heap.size,5,none⟩ = false := free_of hz5 5
      have f6 : w5.frozen? ⟨w.heap.size,6,none⟩ = false := free_of hz5 6
      have f7 : w5.frozen? ⟨w.heap.size,7,none⟩ = false := free_of hz5 7
      clear hz5 hb5
      go_wp2_with fail
      refine got_ret G5.out.below G5.out.blk rfl ?_
      intro Wf hR y0 y1 y2 y3 y4 y5 y6 y7
      exact bodyPost_ret (v := gotV 4 0 (bytesOf ((rest s p).take N)) p false ((p : Int) + (N : Int)) 0 0) (by simp [results,Tryz.results63,go_sem,y0,y1,y2,y3,y4,y5,y6,y7,gotV,HT.out,HMN.out]) rfl ⟨rfl,hR⟩
     ·obtain rfl : I = .tok 3 0 ((rest s p).take N) N := by rw [hI2];rfl
      clear hI2
      go_wp2_with fail
      refine (XK.out _).mono ?_
      rintro e w5 ⟨rfl,hb5⟩
      have G5 := Asd.mk (F.out.step hb5)
      have hz5 := G5.out.blk
      have z0 : w5.cell? ⟨w.heap.size,0,none⟩ = some (.int .i64 0) := cell_of hz5 0
      have z1 : w5.cell? ⟨w.heap.size,1,none⟩ = some (.int .i64 0) := cell_of hz5 1
      have z2 : w5.cell? ⟨w.heap.size,2,none⟩ = some (.string ⟨#[]⟩) := cell_of hz5 2
      have z3 : w5.cell? ⟨w.heap.size,3,none⟩ = some (.int .i64 0) := cell_of hz5 3
      have z4 : w5.cell? ⟨w.heap.size,4,none⟩ = some (.bool false) := cell_of hz5 4
      have z5 : w5.cell? ⟨w.heap.size,5,none⟩ = some (.int .i64 0) := cell_of hz5 5
      have z6 : w5.cell? ⟨w.heap.size,6,none⟩ = some (.int .i64 0) := cell_of hz5 6
      have z7 : w5.cell? ⟨w.heap.size,7,none⟩ = some (.int .i64 0) := cell_of hz5 7
      have f0 : w5.frozen? ⟨w.heap.size,0,none⟩ = false := free_of hz5 0
      have f1 : w5.frozen? ⟨w.heap.size,1,none⟩ = false := free_of hz5 1
      have f2 : w5.frozen? ⟨w.heap.size,2,none⟩ = false := free_of hz5 2
      have f3 : w5.frozen? ⟨w.heap.size,3,none⟩ = false := free_of hz5 3
      have f4 : w5.frozen? ⟨w.heap.size,4,none⟩ = false := free_of hz5 4
      have f5 : w5.frozen? ⟨w.heap.size,5,none⟩ = false := free_of hz5 5
      have f6 : w5.frozen? ⟨w.heap.size,6,none⟩ = false := free_of hz5 6
      have f7 : w5.frozen? ⟨w.heap.size,7,none⟩ = false := free_of hz5 7
      clear hz5 hb5
      go_wp2_with fail
      refine got_ret G5.out.below G5.out.blk rfl ?_
      intro Wf hR y0 y1 y2 y3 y4 y5 y6 y7
      exact bodyPost_ret (v := gotV 3 0 (bytesOf ((rest s p).take N)) p false ((p : Int) + (N : Int)) 0 0) (by simp [results,Tryz.results63,go_sem,y0,y1,y2,y3,y4,y5,y6,y7,gotV,HT.out,HMN.out]) rfl ⟨rfl,hR⟩
     ·obtain rfl : I = .tok 4 0 ((rest s p).take N) N := by rw [hI2];rfl
      clear hI2
      go_wp2_with fail
      refine (XK.out _).mono ?_
      rintro e w5 ⟨rfl,hb5⟩
      have G5 := Asd.mk (F.out.step hb5)
      have hz5 := G5.out.blk
      have z0 : w5.cell? ⟨w.heap.size,0,none⟩ = some (.int .i64 0) := cell_of hz5 0
      have z1 : w5.cell? ⟨w.heap.size,1,none⟩ = some (.int .i64 0) := cell_of hz5 1
      have z2 : w5.cell? ⟨w.heap.size,2,none⟩ = some (.string ⟨#[]⟩) := cell_of hz5 2
      have z3 : w5.cell? ⟨w.heap.size,3,none⟩ = some (.int .i64 0) := cell_of hz5 3
      have z4 : w5.cell? ⟨w.heap.size,4,none⟩ = some (.bool false) := cell_of hz5 4
      have z5 : w5.cell? ⟨w.heap.size,5,none⟩ = some (.int .i64 0) := cell_of hz5 5
      have z6 : w5.cell? ⟨w.heap.size,6,none⟩ = some (.int .i64 0) := cell_of hz5 6
      have z7 : w5.cell? ⟨w.heap.size,7,none⟩ = some (.int .i64 0) := cell_of hz5 7
      have f0 : w5.frozen? ⟨w.heap.size,0,none⟩ = false := free_of hz5 0
      have f1 : w5.frozen? ⟨w.heap.size,1,none⟩ = false := free_of hz5 1
      have f2 : w5.frozen? ⟨w.heap.size,2,none⟩ = false := free_of hz5 2
      have f3 : w5.frozen? ⟨w.heap.size,3,none⟩ = false := free_of hz5 3
      have f4 : w5.frozen? ⟨w.heap.size,4,none⟩ = false := free_of hz5 4
      have f5 : w5.frozen? ⟨w.heap.size,5,none⟩ = false := free_of hz5 5
      have f6 : w5.frozen? ⟨w.heap.size,6,none⟩ = false := free_of hz5 6
      have f7 : w5.frozen? ⟨w.heap.size,7,none⟩ = false := free_of hz5 7
      clear hz5 hb5
      go_wp2_with fail
      refine got_ret G5.out.below G5.out.blk rfl ?_
      intro Wf hR y0 y1 y2 y3 y4 y5 y6 y7
      exact bodyPost_ret (v := gotV 4 0 (bytesOf ((rest s p).take N)) p false ((p : Int) + (N : Int)) 0 0) (by simp [results,Tryz.results63,go_sem,y0,y1,y2,y3,y4,y5,y6,y7,gotV,HT.out,HMN.out]) rfl ⟨rfl,hR⟩
  ·have hkN : k = N := by
    have h1 := HM.out.2
    rw [rest_end s m (by omega),runN] at h1
    omega
   have hmN : m = p + N := by have := HM.out.1;omega
   have HMN := Asd.mk hmN
   clear HM hkN hmN
   have hple : p ≤ m := by have := HMN.out;omega
   have hplei : (p : Int) ≤ (m : Int) := by omega
   have hmlei : (m : Int) ≤ (s.size : Int) := by omega
   by_cases h8 : 8 < N
   ·obtain rfl : I = .bad 6 0 := by rw [← HI.out];unfold wordI;rw [← HN.out,if_pos h8]
    have h8'' : (8 : Int) < (m : Int) - (p : Int) := by have := HMN.out;omega
    go_wp2_with fail
    refine (rbad_any 6 p _).mono ?_
    rintro e w6 ⟨rfl,hb6⟩
    have G6 := Asd.mk (F.out.step hb6)
    have hz6 := G6.out.blk
    have z0 : w6.cell? ⟨w.heap.size,0,none⟩ = some (.int .i64 0) := cell_of hz6 0
    have z1 : w6.cell? ⟨w.heap.size,1,none⟩ = some (.int .i64 0) := cell_of hz6 1
    have z2 : w6.cell? ⟨w.heap.size,2,none⟩ = some (.string ⟨#[]⟩) := cell_of hz6 2
    have z3 : w6.cell? ⟨w.heap.size,3,none⟩ = some (.int .i64 0) := cell_of hz6 3
    have z4 : w6.cell? ⟨w.heap.size,4,none⟩ = some (.bool false) := cell_of hz6 4
    have z5 : w6.cell? ⟨w.heap.size,5,none⟩ = some (.int .i64 0) := cell_of hz6 5
    have z6 : w6.cell? ⟨w.heap.size,6,none⟩ = some (.int .i64 0) := cell_of hz6 6
    have z7 : w6.cell? ⟨w.heap.size,7,none⟩ = some (.int .i64 0) := cell_of hz6 7
    have f0 : w6.frozen? ⟨w.heap.size,0,none⟩ = false := free_of hz6 0
    have f1 : w6.frozen? ⟨w.heap.size,1,none⟩ = false := free_of hz6 1
    have f2 : w6.frozen? ⟨w.heap.size,2,none⟩ = false := free_of hz6 2
    have f3 : w6.frozen? ⟨w.heap.size,3,none⟩ = false := free_of hz6 3
    have f4 : w6.frozen? ⟨w.heap.size,4,none⟩ = false := free_of hz6 4
    have f5 : w6.frozen? ⟨w.heap.size,5,none⟩ = false := free_of hz6 5
    have f6 : w6.frozen? ⟨w.heap.size,6,none⟩ = false := free_of hz6 6
    have f7 : w6.frozen? ⟨w.heap.size,7,none⟩ = false := free_of hz6 7
    clear hz6 hb6
    unfold gotV
    go_wp2_with fail
    refine got_ret G6.out.below G6.out.blk rfl ?_
    intro Wf hR y0 y1 y2 y3 y4 y5 y6 y7
    exact bodyPost_ret (v := gotV 0 0 ⟨#[]⟩ 0 false 0 6 ((p : Int) + ((0 : Nat) : Int))) (by simp [results,Tryz.results63,go_sem,y0,y1,y2,y3,y4,y5,y6,y7,gotV]) rfl ⟨rfl,hR⟩
   ·have h8'' : ¬ (8 : Int) < (m : Int) - (p : Int) := by have := HMN.out;omega
    have T1 : (s.extract p m).data.toList = (rest s p).take N := by rw [HMN.out,ext_eq];rfl
    have T2 : (s.extract p m).size = N := by rw [← size_list,T1,List.length_take,rest_len];omega
    have T3 : bytesOf ((rest s p).take N) = s.extract p m := by rw [HMN.out,ext_eq]
    have XK := Asd.mk (fun w => rkind_any (s.extract p m) w (by rw [T2];unfold maxLen;omega))
    rw [T1] at XK
    have hI2 : I = if (kindI ((rest s p).take N) == 1 || kindI ((rest s p).take N) == 3) = true then .tok 3 0 ((rest s p).take N) N else if (kindI ((rest s p).take N) == 2 || kindI ((rest s p).take N) == 4) = true then .tok 4 0 ((rest s p).take N) N else .bad 2 0 := by
     rw [← HI.out];unfold wordI;rw [← HN.out,if_neg h8]
    have hkv := kind_vals ((rest s p).take N)
    generalize kindI ((rest s p).take N) = kk at XK hI2 hkv
    have HT := Asd.mk T3
    clear T1 T2 T3
    rcases hkv with rfl | rfl | rfl | rfl | rfl
    ·obtain rfl : I = .bad 2 0 := by rw [hI2];rfl
     clear hI2
     go_wp2_with fail
     refine (XK.out _).mono ?_
     rintro e w5 ⟨rfl,hb5⟩
     have G5 := Asd.mk (F.out.step hb5)
     clear hb5
     go_wp2_with fail
     refine (rbad_any 2 p _).mono ?_
     rintro e w6 ⟨rfl,hb6⟩
     have G6 := Asd.mk (G5.out.step hb6)
     have hz6 := G6.out.blk
     have z0 : w6.cell? ⟨w.heap.size,0,none⟩ = some (.int .i64 0) := cell_of hz6 0
     have z1 : w6.cell? ⟨w.heap.size,1,none⟩ = some (.int .i64 0) := cell_of hz6 1
     have z2 : w6.cell? ⟨w.heap.size,2,none⟩ = some (.string ⟨#[]⟩) := cell_of hz6 2
     have z3 : w6.cell? ⟨w.heap.size,3,none⟩ = some (.int .i64 0) := cell_of hz6 3
     have z4 : w6.cell? ⟨w.heap.size,4,none⟩ = some (.bool false) := cell_of hz6 4
     have z5 : w6.cell? ⟨w.heap.size,5,none⟩ = some (.int .i64 0) := cell_of hz6 5
     have z6 : w6.cell? ⟨w.heap.size,6,none⟩ = some (.int .i64 0) := cell_of hz6 6
     have z7 : w6.cell? ⟨w.heap.size,7,none⟩ = some (.int .i64 0) := cell_of hz6 7
     have f0 : w6.frozen? ⟨w.heap.size,0,none⟩ = false := free_of hz6 0
     have f1 : w6.frozen? ⟨w.heap.size,1,none⟩ = false := free_of hz6 1
     have f2 : w6.frozen? ⟨w.heap.size,2,none⟩ = false := free_of hz6 2
     have f3 : w6.frozen? ⟨w.heap.size,3,none⟩ = false := free_of hz6 3
     have f4 : w6.frozen? ⟨w.heap.size,4,none⟩ = false := free_of hz6 4
     have f5 : w6.frozen? ⟨w.heap.size,5,none⟩ = false := free_of hz6 5
     have f6 : w6.frozen? ⟨w.heap.size,6,none⟩ = false := free_of hz6 6
     have f7 : w6.frozen? ⟨w.heap.size,7,none⟩ = false := free_of hz6 7
     clear hz6 hb6
     unfold gotV
     go_wp2_with fail
     refine got_ret G6.out.below G6.out.blk rfl ?_
     intro Wf hR y0 y1 y2 y3 y4 y5 y6 y7
     exact bodyPost_ret (v := gotV 0 0 ⟨#[]⟩ 0 false 0 2 ((p : Int) + ((0 : Nat) : Int))) (by simp [results,Tryz.results63,go_sem,y0,y1,y2,y3,y4,y5,y6,y7,gotV]) rfl ⟨rfl,hR⟩
    ·obtain rfl : I = .tok 3 0 ((rest s p).take N) N := by rw [hI2];rfl
     clear hI2
     go_wp2_with fail
     refine (XK.out _).mono ?_
     rintro e w5 ⟨rfl,hb5⟩
     have G5 := Asd.mk (F.out.step hb5)
     have hz5 := G5.out.blk
     have z0 : w5.cell? ⟨w.heap.size,0,none⟩ = some (.int .i64 0) := cell_of hz5 0
     have z1 : w5.cell? ⟨w.heap.size,1,none⟩ = some (.int .i64 0) := cell_of hz5 1
     have z2 : w5.cell? ⟨w.heap.size,2,none⟩ = some (.string ⟨#[]⟩) := cell_of hz5 2
     have z3 : w5.cell? ⟨w.heap.size,3,none⟩ = some (.int .i64 0) := cell_of hz5 3
     have z4 : w5.cell? ⟨w.heap.size,4,none⟩ = some (.bool false) := cell_of hz5 4
     have z5 : w5.cell? ⟨w.heap.size,5,none⟩ = some (.int .i64 0) := cell_of hz5 5
     have z6 : w5.cell? ⟨w.heap.size,6,none⟩ = some (.int .i64 0) := cell_of hz5 6
     have z7 : w5.cell? ⟨w.heap.size,7,none⟩ = some (.int .i64 0) := cell_of hz5 7
     have f0 : w5.frozen? ⟨w.heap.size,0,none⟩ = false := free_of hz5 0
     have f1 : w5.frozen? ⟨w.heap.size,1,none⟩ = false := free_of hz5 1
     have f2 : w5.frozen? ⟨w.heap.size,2,none⟩ = false := free_of hz5 2
     have f3 : w5.frozen? ⟨w.heap.size,3,none⟩ = false := free_of hz5 3
     have f4 : w5.frozen? ⟨w.heap.size,4,none⟩ = false := free_of hz5 4
     have f5 : w5.frozen? ⟨w.heap.size,5,none⟩ = false := free_of hz5 5
     have f6 : w5.frozen? ⟨w.heap.size,6,none⟩ = false := free_of hz5 6
     have f7 : w5.frozen? ⟨w.heap.size,7,none⟩ = false := free_of hz5 7
     clear hz5 hb5
     go_wp2_with fail
     refine got_ret G5.out.below G5.out.blk rfl ?_
     intro Wf hR y0 y1 y2 y3 y4 y5 y6 y7
     exact bodyPost_ret (v := gotV 3 0 (bytesOf ((rest s p).take N)) p false ((p : Int) + (N : Int)) 0 0) (by simp [results,Tryz.results63,go_sem,y0,y1,y2,y3,y4,y5,y6,y7,gotV,HT.out,HMN.out]) rfl ⟨rfl,hR⟩
    ·obtain rfl : I = .tok 4 0 ((rest s p).take N) N := by rw [hI2];rfl
     clear hI2
     go_wp2_with fail
     refine (XK.out _).mono ?_
     rintro e w5 ⟨rfl,hb5⟩
     have G5 := Asd.mk (F.out.step hb5)
     have hz5 := G5.out.blk
     have z0 : w5.cell? ⟨w.heap.size,0,none⟩ = some (.int .i64 0) := cell_of hz5 0
     have z1 : w5.cell? ⟨w.heap.size,1,none⟩ = some (.int .i64 0) := cell_of hz5 1
     have z2 : w5.cell? ⟨w.heap.size,2,none⟩ = some (.string ⟨#[]⟩) := cell_of hz5 2
     have z3 : w5.cell? ⟨w.heap.size,3,none⟩ = some (.int .i64 0) := cell_of hz5 3
     have z4 : w5.cell? ⟨w.heap.size,4,none⟩ = some (.bool false) := cell_of hz5 4
     have z5 : w5.cell? ⟨w.heap.size,5,none⟩ = some (.int .i64 0) := cell_of hz5 5
     have z6 : w5.cell? ⟨w.heap.size,6,none⟩ = some (.int .i64 0) := cell_of hz5 6
     have z7 : w5.cell? ⟨w.heap.size,7,none⟩ = some (.int .i64 0) := cell_of hz5 7
     have f0 : w5.frozen? ⟨w.heap.size,0,none⟩ = false := free_of hz5 0
     have f1 : w5.frozen? ⟨w.heap.size,1,none⟩ = false := free_of hz5 1
     have f2 : w5.frozen? ⟨w.heap.size,2,none⟩ = false := free_of hz5 2
     have f3 : w5.frozen? ⟨w.heap.size,3,none⟩ = false := free_of hz5 3
     have f4 : w5.frozen? ⟨w.heap.size,4,none⟩ = false := free_of hz5 4
     have f5 : w5.frozen? ⟨w.heap.size,5,none⟩ = false := free_of hz5 5
     have f6 : w5.frozen? ⟨w.heap.size,6,none⟩ = false := free_of hz5 6
     have f7 : w5.frozen? ⟨w.heap.size,7,none⟩ = false := free_of hz5 7
     clear hz5 hb5
     go_wp2_with fail
     refine got_ret G5.out.below G5.out.blk rfl ?_
     intro Wf hR y0 y1 y2 y3 y4 y5 y6 y7
     exact bodyPost_ret (v := gotV 4 0 (bytesOf ((rest s p).take N)) p false ((p : Int) + (N : Int)) 0 0) (by simp [results,Tryz.results63,go_sem,y0,y1,y2,y3,y4,y5,y6,y7,gotV,HT.out,HMN.out]) rfl ⟨rfl,hR⟩
    ·obtain rfl : I = .tok 3 0 ((rest s p).take N) N := by rw [hI2];rfl
     clear hI2
     go_wp2_with fail
     refine (XK.out _).mono ?_
     rintro e w5 ⟨rfl,hb5⟩
     have G5 := Asd.mk (F.out.step hb5)
     have hz5 := G5.out.blk
     have z0 : w5.cell? ⟨w.heap.size,0,none⟩ = some (.int .i64 0) := cell_of hz5 0
     have z1 : w5.cell? ⟨w.heap.size,1,none⟩ = some (.int .i64 0) := cell_of hz5 1
     have z2 : w5.cell? ⟨w.heap.size,2,none⟩ = some (.string ⟨#[]⟩) := cell_of hz5 2
     have z3 : w5.cell? ⟨w.heap.size,3,none⟩ = some (.int .i64 0) := cell_of hz5 3
     have z4 : w5.cell? ⟨w.heap.size,4,none⟩ = some (.bool false) := cell_of hz5 4
     have z5 : w5.cell? ⟨w.heap.size,5,none⟩ = some (.int .i64 0) := cell_of hz5 5
     have z6 : w5.cell? ⟨w.heap.size,6,none⟩ = some (.int .i64 0) := cell_of hz5 6
     have z7 : w5.cell? ⟨w.heap.size,7,none⟩ = some (.int .i64 0) := cell_of hz5 7
     have f0 : w5.frozen? ⟨w.heap.size,0,none⟩ = false := free_of hz5 0
     have f1 : w5.frozen? ⟨w.heap.size,1,none⟩ = false := free_of hz5 1
     have f2 : w5.frozen? ⟨w.heap.size,2,none⟩ = false := free_of hz5 2
     have f3 : w5.frozen? ⟨w.heap.size,3,none⟩ = false := free_of hz5 3
     have f4 : w5.frozen? ⟨w.heap.size,4,none⟩ = false := free_of hz5 4
     have f5 : w5.frozen? ⟨w.heap.size,5,none⟩ = false := free_of hz5 5
     have f6 : w5.frozen? ⟨w.heap.size,6,none⟩ = false := free_of hz5 6
     have f7 : w5.frozen? ⟨w.heap.size,7,none⟩ = false := free_of hz5 7
     clear hz5 hb5
     go_wp2_with fail
     refine got_ret G5.out.below G5.out.blk rfl ?_
     intro Wf hR y0 y1 y2 y3 y4 y5 y6 y7
     exact bodyPost_ret (v := gotV 3 0 (bytesOf ((rest s p).take N)) p false ((p : Int) + (N : Int)) 0 0) (by simp [results,Tryz.results63,go_sem,y0,y1,y2,y3,y4,y5,y6,y7,gotV,HT.out,HMN.out]) rfl ⟨rfl,hR⟩
    ·obtain rfl : I = .tok 4 0 ((rest s p).take N) N := by rw [hI2];rfl
     clear hI2
     go_wp2_with fail
     refine (XK.out _).mono ?_
     rintro e w5 ⟨rfl,hb5⟩
     have G5 := Asd.mk (F.out.step hb5)
     have hz5 := G5.out.blk
     have z0 : w5.cell? ⟨w.heap.size,0,none⟩ = some (.int .i64 0) := cell_of hz5 0
     have z1 : w5.cell? ⟨w.heap.size,1,none⟩ = some (.int .i64 0) := cell_of hz5 1
     have z2 : w5.cell? ⟨w.heap.size,2,none⟩ = some (.string ⟨#[]⟩) := cell_of hz5 2
     have z3 : w5.cell? ⟨w.heap.size,3,none⟩ = some (.int .i64 0) := cell_of hz5 3
     have z4 : w5.cell? ⟨w.heap.size,4,none⟩ = some (.bool false) := cell_of hz5 4
     have z5 : w5.cell? ⟨w.heap.size,5,none⟩ = some (.int .i64 0) := cell_of hz5 5
     have z6 : w5.cell? ⟨w.heap.size,6,none⟩ = some (.int .i64 0) := cell_of hz5 6
     have z7 : w5.cell? ⟨w.heap.size,7,none⟩ = some (.int .i64 0) := cell_of hz5 7
     have f0 : w5.frozen? ⟨w.heap.size,0,none⟩ = false := free_of hz5 0
     have f1 : w5.frozen? ⟨w.heap.size,1,none⟩ = false := free_of hz5 1
     have f2 : w5.frozen? ⟨w.heap.size,2,none⟩ = false := free_of hz5 2
     have f3 : w5.frozen? ⟨w.heap.size,3,none⟩ = false := free_of hz5 3
     have f4 : w5.frozen? ⟨w.heap.size,4,none⟩ = false := free_of hz5 4
     have f5 : w5.frozen? ⟨w.heap.size,5,none⟩ = false := free_of hz5 5
     have f6 : w5.frozen? ⟨w.heap.size,6,none⟩ = false := free_of hz5 6
     have f7 : w5.frozen? ⟨w.heap.size,7,none⟩ = false := free_of hz5 7
     clear hz5 hb5
     go_wp2_with fail
     refine got_ret G5.out.below G5.out.blk rfl ?_
     intro Wf hR y0 y1 y2 y3 y4 y5 y6 y7
     exact bodyPost_ret (v := gotV 4 0 (bytesOf ((rest s p).take N)) p false ((p : Int) + (N : Int)) 0 0) (by simp [results,Tryz.results63,go_sem,y0,y1,y2,y3,y4,y5,y6,y7,gotV,HT.out,HMN.out]) rfl ⟨rfl,hR⟩
end Go.Proofs.YtkoabcncdjmoeaaGreatDoor

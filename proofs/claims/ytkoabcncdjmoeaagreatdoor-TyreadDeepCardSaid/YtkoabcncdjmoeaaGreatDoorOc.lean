/- The document's lexer: number. -/
import Derived.Test.YtkoabcncdjmoeaaGreatDoorOa
set_option linter.unusedSimpArgs false
set_option linter.unusedVariables false
set_option maxRecDepth 1000000
set_option maxHeartbeats 40000000
namespace Go.Proofs.YtkoabcncdjmoeaaGreatDoor
open Go.RowKit
theorem dgt_dig (c : Int) (h : digB c = true) : dgtI 10 c = c - 48 := by
 have h2 : 48 ≤ c ∧ c ≤ 57 := by simpa [digB] using h
 unfold dgtI
 rw [h,if_pos rfl,if_pos (by omega)]
theorem runN_all (q : Int -> Bool) : ∀ (l : List UInt8) (j : Nat),j < runN q l -> ∃ c,l[j]? = some c ∧ q (c.toNat : Int) = true
 | [],j,h => by simp [runN] at h
 | c :: r,j,h => by
  unfold runN at h
  split at h
  ·rename_i hc
   cases j with
   | zero => exact ⟨c,rfl,hc⟩
   | succ j => exact runN_all q r j (by omega)
  ·omega
theorem run_byte (q : Int -> Bool) (s : ByteArray) (p m : Nat) (hpm : p ≤ m) (hm : m < s.size) (h : m < p + runN q (rest s p)) : q (s[m].toNat : Int) = true := by
 obtain ⟨c,hc,hq⟩ := runN_all q (rest s p) (m - p) (by omega)
 unfold rest at hc
 rw [List.getElem?_drop,show p + (m - p) = m by omega,byte_at s m hm] at hc
 obtain rfl := Option.some.inj hc
 exact hq
theorem take_at (s : ByteArray) (p N m : Nat) (hpm : p ≤ m) (hm : m < p + N) (hs : m < s.size) : ((rest s p).take N).drop (m - p) = s[m] :: ((rest s p).take N).drop (m + 1 - p) := by
 have hlen : m - p < ((rest s p).take N).length := by rw [List.length_take,rest_len];omega
 rw [List.drop_eq_getElem_cons hlen]
 rw [show m - p + 1 = m + 1 - p by omega]
 congr 1
 rw [List.getElem_take]
 unfold rest
 rw [List.getElem_drop]
 have : p + (m - p) = m := by omega
 simp only [this]
 try rfl
theorem rnumber_any (s : ByteArray) (p : Nat) (w : World) (hs : s.size ≤ maxLen) (hp : p < s.size) (hd0 : digB (s[p].toNat : Int) = true) :
  Calls Tryz.prog 61 #[.string s,.int .i64 p] w fun e w' => e = .returned (gotOf (numI (rest s p)) p) ∧ Below w.heap.size w w' := by
 have HS := Asd.mk hs
 unfold maxLen at hs
 generalize hI : numI (rest s p) = I
 have HI := Asd.mk hI
 clear hI
 have HN : Asd (∃ N,N = runN digB (rest s p)) := ⟨_,rfl⟩
 obtain ⟨N,hN⟩ := HN.out
 clear HN
 have HN := Asd.mk hN
 have hNle : p + N ≤ s.size := by have := runN_le digB (rest s p);rw [rest_len] at this;omega
 have hN1 : 1 ≤ N := by
  rw [hN]
  exact runN_pos (by rw [rest_bI s p 0 (by omega)];exact hd0) (by rw [rest_len];omega)
 clear hN
 have HD0 := Asd.mk hd0
 clear hd0
 have F := Asd.mk (G8.start w _ rfl)
 go_enter Tryz.func61,Tryz.ntmps61
 go_wp2_with fail
 generalize (w.alloc (.cells #[.int .i64 0,.int .i64 0,.string ⟨#[]⟩,.int .i64 0,.bool false,.int .i64 0,.int .i64 0,.int .i64 0] 82)) = W at F ⊢
 go_loop [5] (fun v5 => ∃ k : Nat,v5 = .int .i64 ((p : Int) + (k : Int)) ∧ p + k ≤ s.size ∧ k + runN digB (rest s (p + k)) = N) (fun v5 => s.size - (intOf v5).toNat)
 case atStart => exact ⟨0,by simp,by omega,by rw [Nat.add_zero,Nat.zero_add];exact HN.out.symm⟩
 case round =>
  obtain ⟨k,rfl,hk,hr⟩ := hrel
  obtain ⟨m,hm⟩ : ∃ m,m = p + k := ⟨_,rfl⟩
  have hmi : (p : Int) + (k : Int) = (m : Int) := by omega
  rw [hmi]
  rw [← hm] at hr hk
  have HM := Asd.mk (And.intro hm hr)
  clear hm hr hmi
  by_cases hlt : m < s.size
  ·have X := Asd.mk (fun w => rdigit_any (s[m].toNat : Int) w)
   rcases Bool.eq_false_or_eq_true (digB (s[m].toNat : Int)) with hq | hq
   ·have HX := Asd.mk hq
    rw [hq] at X
    clear hq
    go_wp2_with fail
    refine (X.out _).mono ?_
    rintro e w' ⟨rfl,rfl⟩
    go_wp2_with fail
    go_round
    case rel => exact ⟨k + 1,by have := HM.out.1;exact congrArg (Value.int .i64) (by omega),by have := HM.out.1;omega,by
     have h1 := HM.out.2
     rw [rest_lt s m hlt,runN,if_pos HX.out] at h1
     rw [← Nat.add_assoc,← HM.out.1]
     omega⟩
    case measure => simp [intOf];omega
   ·have HX := Asd.mk hq
    rw [hq] at X
    clear hq
    have hkN : k = N := by
     have h1 := HM.out.2
     rw [rest_lt s m hlt,runN,if_neg (by rw [HX.out];simp)] at h1
     omega
    have hmN : m = p + N := by have := HM.out.1;omega
    have HMN := Asd.mk hmN
    clear HX HM hkN hmN
    go_wp2_with fail
    refine (X.out _).mono ?_
    rintro e w' ⟨rfl,rfl⟩
    have hb0 : bI (rest s p) 0 = (s[p].toNat : Int) := rest_bI s p 0 (by omega)
    rcases Bool.eq_false_or_eq_true (decide (1 < N) && ((s[p].toNat : Int) == 48)) with hz | hz
    ·have hz2 : 1 < N ∧ ((s[p].toNat : Int) == 48) = true := by simpa using hz
     obtain ⟨z1,z2⟩ := hz2
     obtain rfl : I = .bad 21 0 := by rw [← HI.out];unfold numI;rw [← HN.out,hb0,if_pos hz]
     have z3 : (p : Int) + 1 < (m : Int) := by have := HMN.out;omega
     clear hz hb0 z1
     go_wp2_with fail
     refine (rbad_any 21 p _).mono ?_
     rintro e w6 ⟨rfl,hb6⟩
     have G6 := Asd.mk (F.out.step hb6)
     have hz6 := G6.out.blk
     have z0 : w6.cell? ⟨w.heap.size,0,none⟩ = some (.int .i64 0) := cell_of hz6 0
     have z1 : w6.cell? ⟨w.heap.size,1,none⟩ = some (.int .i64 0) := cell_of hz6 1
     have z2 : w6.cell? ⟨w.heap.size,2,none⟩ = some (.string ⟨#[]⟩) := cell_of hz6 2
     have z3 : w6.cell? ⟨w.heap.size,3,none⟩ = some (.int .i64 0) := cell_of hz6 3
     have z4 : w6.cell? ⟨w.heap.size,4,none⟩ = some (.bool false) := cell_of hz6 4
     have z5 : w6.cell? ⟨w.heap.size,5,none⟩ = some (.int .i64 0) := cell_of hz6 5
     have z6 : w6.cell? ⟨w.heap.size,6,none⟩ = some (.int .i64 0) := cell_of hz6 6
     have z7 : w6.cell? ⟨w.heap.size,7,none⟩ = some (.int .i64 0) := cell_of hz6 7
     have f0 : w6.frozen? ⟨w.heap.size,0,none⟩ = false := free_of hz6 0
     have f1 : w6.frozen? ⟨w.heap.size,1,none⟩ = false := free_of hz6 1
     have f2 : w6.frozen? ⟨w.heap.size,2,none⟩ = false := free_of hz6 2
     have f3 : w6.frozen? ⟨w.heap.size,3,none⟩ = false := free_of hz6 3
     have f4 : w6.frozen? ⟨w.heap.size,4,none⟩ = false := free_of hz6 4
     have f5 : w6.frozen? ⟨w.heap.size,5,none⟩ = false := free_of hz6 5
     have f6 : w6.frozen? ⟨w.heap.size,6,none⟩ = false := free_of hz6 6
     have f7 : w6.frozen? ⟨w.heap.size,7,none⟩ = false := free_of hz6 7
     clear hz6 hb6
     unfold gotV
     go_wp2_with fail
     refine got_ret G6.out.below G6.out.blk rfl ?_
     intro Wf hR y0 y1 y2 y3 y4 y5 y6 y7
     exact bodyPost_ret (v := gotV 0 0 ⟨#[]⟩ 0 false 0 21 ((p : Int) + ((0 : Nat) : Int))) (by simp [results,Tryz.results61,go_sem,y0,y1,y2,y3,y4,y5,y6,y7,gotV]) rfl ⟨rfl,hR⟩
    ·have hI2 : I = if (valF 10 ((rest s p).take N) 0).2 = true then .tok 1 (valF 10 ((rest s p).take N) 0).1 [] N else .bad 6 0 := by
      rw [← HI.out];unfold numI;rw [← HN.out,hb0,if_neg (by rw [hz];simp)]
     clear hb0
     have hzz : ((s[p].toNat : Int) == 48) = false ∨ (((s[p].toNat : Int) == 48) = true ∧ ¬ ((p : Int) + 1 < (m : Int))) := by
      rcases Bool.eq_false_or_eq_true ((s[p].toNat : Int) == 48) with h | h
      ·right
       refine ⟨h,?_⟩
       rw [h] at hz
       have : ¬ 1 < N := by simpa using hz
       have := HMN.out
       omega
      ·exact .inl h
     have HI2 := Asd.mk hI2
     clear hz hI2
     have hpm : p ≤ m := by have := HMN.out;omega
     have hms : m ≤ s.size := by have := HMN.out;omega
     rcases hzz with hz | ⟨hz,hz2⟩
     all_goals
      go_wp2_with fail
      go_loop [6,7] (fun v6 v7 => ∃ (i : Nat) (n : Int),v7 = .int .i64 i ∧ v6 = .int .u64 n ∧ p ≤ i ∧ i ≤ m ∧ 0 ≤ n ∧ n ≤ 9223372036854775807 ∧ valF 10 (((rest s p).take N).drop (i - p)) n = valF 10 ((rest s p).take N) 0) (fun _ v7 => s.size - (intOf v7).toNat)
      case atStart => exact ⟨p,0,rfl,rfl,Nat.le_refl _,hpm,Int.le_refl _,by omega,by rw [Nat.sub_self];rfl⟩
      case round =>
       obtain ⟨i,n,rfl,rfl,hi1,hi2,hn1,hn2,hv⟩ := hrel
       have HV := Asd.mk hv
       clear hv
       by_cases him : i < m
       ·have his : i < s.size := by omega
        have hdg := run_byte digB s p i hi1 his (by rw [← HN.out,← HMN.out];exact him)
        have hdr : 48 ≤ (s[i].toNat : Int) ∧ (s[i].toNat : Int) ≤ 57 := by simpa [digB] using hdg
        have hst := HV.out
        rw [take_at s p N i hi1 (by rw [← HMN.out];exact him) his,valF,dgt_dig _ hdg] at hst
        have HST := Asd.mk hst
        clear hst hdg
        obtain ⟨hdr1,hdr2⟩ := hdr
        by_cases hbig : 922337203685477580 < n
        ·have hV : valF 10 ((rest s p).take N) 0 = (0,false) := by
          rw [← HST.out,if_pos (by simp only [Bool.or_eq_true,decide_eq_true_eq];omega)]
         obtain rfl : I = .bad 6 0 := by rw [HI2.out,hV];rfl
         clear hV
         clear HI2
         go_wp2_with fail
         refine (rbad_any 6 p _).mono ?_
         rintro e w6 ⟨rfl,hb6⟩
         have G6 := Asd.mk (F.out.step hb6)
         have hz6 := G6.out.blk
         have z0 : w6.cell? ⟨w.heap.size,0,none⟩ = some (.int .i64 0) := cell_of hz6 0
         have z1 : w6.cell? ⟨w.heap.size,1,none⟩ = some (.int .i64 0) := cell_of hz6 1
         have z2 : w6.cell? ⟨w.heap.size,2,none⟩ = some (.string ⟨#[]⟩) := cell_of hz6 2
         have z3 : w6.cell? ⟨w.heap.size,3,none⟩ = some (.int .i64 0) := cell_of hz6 3
         have z4 : w6.cell? ⟨w.heap.size,4,none⟩ = some (.bool false) := cell_of hz6 4
         have z5 : w6.cell? ⟨w.heap.size,5,none⟩ = some (.int .i64 0) := cell_of hz6 5
         have z6 : w6.cell? ⟨w.heap.size,6,none⟩ = some (.int .i64 0) := cell_of hz6 6
         have z7 : w6.cell? ⟨w.heap.size,7,none⟩ = some (.int .i64 0) := cell_of hz6 7
         have f0 : w6.frozen? ⟨w.heap.size,0,none⟩ = false := free_of hz6 0
         have f1 : w6.frozen? ⟨w.heap.size,1,none⟩ = false := free_of hz6 1
         have f2 : w6.frozen? ⟨w.heap.size,2,none⟩ = false := free_of hz6 2
         have f3 : w6.frozen? ⟨w.heap.size,3,none⟩ = false := free_of hz6 3
         have f4 : w6.frozen? ⟨w.heap.size,4,none⟩ = false := free_of hz6 4
         have f5 : w6.frozen? ⟨w.heap.size,5,none⟩ = false := free_of hz6 5
         have f6 : w6.frozen? ⟨w.heap.size,6,none⟩ = false := free_of hz6 6
         have f7 : w6.frozen? ⟨w.heap.size,7,none⟩ = false := free_of hz6 7
         clear hz6 hb6
         unfold gotV
         go_wp2_with fail
         refine got_ret G6.out.below G6.out.blk rfl ?_
         intro Wf hR y0 y1 y2 y3 y4 y5 y6 y7
         exact bodyPost_ret (v := gotV 0 0 ⟨#[]⟩ 0 false 0 6 ((p : Int) + ((0 : Nat) : Int))) (by simp [results,Tryz.results61,go_sem,y0,y1,y2,y3,y4,y5,y6,y7,gotV]) rfl ⟨rfl,hR⟩
        ·by_cases hover : 9223372036854775807 < n * 10 + ((s[i].toNat : Int) - 48)
         ·have hV : valF 10 ((rest s p).take N) 0 = (0,false) := by
           rw [← HST.out,if_pos (by simp only [Bool.or_eq_true,decide_eq_true_eq];omega)]
          obtain rfl : I = .bad 6 0 := by rw [HI2.out,hV];rfl
          clear hV
          clear HI2
          go_wp2_with fail
          refine (rbad_any 6 p _).mono ?_
          rintro e w6 ⟨rfl,hb6⟩
          have G6 := Asd.mk (F.out.step hb6)
          have hz6 := G6.out.blk
          have z0 : w6.cell? ⟨w.heap.size,0,none⟩ = some (.int .i64 0) := cell_of hz6 0
          have z1 : w6.cell? ⟨w.heap.size,1,none⟩ = some (.int .i64 0) := cell_of hz6 1
          have z2 : w6.cell? ⟨w.heap.size,2,none⟩ = some (.string ⟨#[]⟩) := cell_of hz6 2
          have z3 : w6.cell? ⟨w.heap.size,3,none⟩ = some (.int .i64 0) := cell_of hz6 3
          have z4 : w6.cell? ⟨w.heap.size,4,none⟩ = some (.bool false) := cell_of hz6 4
          have z5 : w6.cell? ⟨w.heap.size,5,none⟩ = some (.int .i64 0) := cell_of hz6 5
          have z6 : w6.cell? ⟨w.heap.size,6,none⟩ = some (.int .i64 0) := cell_of hz6 6
          have z7 : w6.cell? ⟨w.heap.size,7,none⟩ = some (.int .i64 0) := cell_of hz6 7
          have f0 : w6.frozen? ⟨w.heap.size,0,none⟩ = false := free_of hz6 0
          have f1 : w6.frozen? ⟨w.heap.size,1,none⟩ = false := free_of hz6 1
          have f2 : w6.frozen? ⟨w.heap.size,2,none⟩ = false := free_of hz6 2
          have f3 : w6.frozen? ⟨w.heap.size,3,none⟩ = false := free_of hz6 3
          have f4 : w6.frozen? ⟨w.heap.size,4,none⟩ = false := free_of hz6 4
          have f5 : w6.frozen? ⟨w.heap.size,5,none⟩ = false := free_of hz6 5
          have f6 : w6.frozen? ⟨w.heap.size,6,none⟩ = false := free_of hz6 6
          have f7 : w6.frozen? ⟨w.heap.size,7,none⟩ = false := free_of hz6 7
          clear hz6 hb6
          unfold gotV
          go_wp2_with fail
          refine got_ret G6.out.below G6.out.blk rfl ?_
          intro Wf hR y0 y1 y2 y3 y4 y5 y6 y7
          exact bodyPost_ret (v := gotV 0 0 ⟨#[]⟩ 0 false 0 6 ((p : Int) + ((0 : Nat) : Int))) (by simp [results,Tryz.results61,go_sem,y0,y1,y2,y3,y4,y5,y6,y7,gotV]) rfl ⟨rfl,hR⟩
         ·go_wp2_with fail
          go_round
          case rel => exact ⟨i + 1,n * 10 + ((s[i].toNat : Int) - 48),by go_num,rfl,by omega,by omega,by omega,by omega,by
           rw [← HST.out,if_neg]
           simp only [Bool.or_eq_true,decide_eq_true_eq,not_or];omega⟩
          case measure => simp [intOf];omega
       ·have him2 : i = m := by omega
        have hfin : valF 10 ((rest s p).take N) 0 = (n,true) := by
         rw [← HV.out,List.drop_of_length_le (by rw [List.length_take,rest_len];have := HMN.out;omega)]
         try rfl
        obtain rfl : I = .tok 1 n [] N := by rw [HI2.out,hfin];rfl
        have hz5 := F.out.blk
        have HX := Asd.mk (And.intro him2 hfin)
        clear HI2 HV hfin
        have z0 : W.cell? ⟨w.heap.size,0,none⟩ = some (.int .i64 0) := cell_of hz5 0
        have z1 : W.cell? ⟨w.heap.size,1,none⟩ = some (.int .i64 0) := cell_of hz5 1
        have z2 : W.cell? ⟨w.heap.size,2,none⟩ = some (.string ⟨#[]⟩) := cell_of hz5 2
        have z3 : W.cell? ⟨w.heap.size,3,none⟩ = some (.int .i64 0) := cell_of hz5 3
        have z4 : W.cell? ⟨w.heap.size,4,none⟩ = some (.bool false) := cell_of hz5 4
        have z5 : W.cell? ⟨w.heap.size,5,none⟩ = some (.int .i64 0) := cell_of hz5 5
        have z6 : W.cell? ⟨w.heap.size,6,none⟩ = some (.int .i64 0) := cell_of hz5 6
        have z7 : W.cell? ⟨w.heap.size,7,none⟩ = some (.int .i64 0) := cell_of hz5 7
        have f0 : W.frozen? ⟨w.heap.size,0,none⟩ = false := free_of hz5 0
        have f1 : W.frozen? ⟨w.heap.size,1,none⟩ = false := free_of hz5 1
        have f2 : W.frozen? ⟨w.heap.size,2,none⟩ = false := free_of hz5 2
        have f3 : W.frozen? ⟨w.heap.size,3,none⟩ = false := free_of hz5 3
        have f4 : W.frozen? ⟨w.heap.size,4,none⟩ = false := free_of hz5 4
        have f5 : W.frozen? ⟨w.heap.size,5,none⟩ = false := free_of hz5 5
        have f6 : W.frozen? ⟨w.heap.size,6,none⟩ = false := free_of hz5 6
        have f7 : W.frozen? ⟨w.heap.size,7,none⟩ = false := free_of hz5 7
        clear hz5
        go_wp2_with fail
        refine got_ret F.out.below F.out.blk rfl ?_
        intro Wf hR y0 y1 y2 y3 y4 y5 y6 y7
        exact bodyPost_ret (v := gotV 1 n (bytesOf []) p false ((p : Int) + (N : Int)) 0 0) (by simp [results,Tryz.results61,go_sem,y0,y1,y2,y3,y4,y5,y6,y7,gotV,bytesOf,HMN.out]) rfl ⟨rfl,hR⟩
  ·have hkN : k = N := by
    have h1 := HM.out.2
    rw [rest_end s m (by omega),runN] at h1
    omega
   have hmN : m = p + N := by have := HM.out.1;omega
   have HMN := Asd.mk hmN
   clear HM hkN hmN
   have hb0 : bI (rest s p) 0 = (s[p].toNat : Int) := rest_bI s p 0 (by omega)
   rcases Bool.eq_false_or_eq_true (decide (1 < N) && ((s[p].toNat : Int) == 48)) with hz | hz
   ·have hz2 : 1 < N ∧ ((s[p].toNat : Int) == 48) = true := by simpa using hz
    obtain ⟨z1,z2⟩ := hz2
    obtain rfl : I = .bad 21 0 := by rw [← HI.out];unfold numI;rw [← HN.out,hb0,if_pos hz]
    have z3 : (p : Int) + 1 < (m : Int) := by have := HMN.out;omega
    clear hz hb0 z1
    go_wp2_with fail
    refine (rbad_any 21 p _).mono ?_
    rintro e w6 ⟨rfl,hb6⟩
    have G6 := Asd.mk (F.out.step hb6)
    have hz6 := G6.out.blk
    have z0 : w6.cell? ⟨w.heap.size,0,none⟩ = some (.int .i64 0) := cell_of hz6 0
    have z1 : w6.cell? ⟨w.heap.size,1,none⟩ = some (.int .i64 0) := cell_of hz6 1
    have z2 : w6.cell? ⟨w.heap.size,2,none⟩ = some (.string ⟨#[]⟩) := cell_of hz6 2
    have z3 : w6.cell? ⟨w.heap.size,3,none⟩ = some (.int .i64 0) := cell_of hz6 3
    have z4 : w6.cell? ⟨w.heap.size,4,none⟩ = some (.bool false) := cell_of hz6 4
    have z5 : w6.cell? ⟨w.heap.size,5,none⟩ = some (.int .i64 0) := cell_of hz6 5
    have z6 : w6.cell? ⟨w.heap.size,6,none⟩ = some (.int .i64 0) := cell_of hz6 6
    have z7 : w6.cell? ⟨w.heap.size,7,none⟩ = some (.int .i64 0) := cell_of hz6 7
    have f0 : w6.frozen? ⟨w.heap.size,0,none⟩ = false := free_of hz6 0
    have f1 : w6.frozen? ⟨w.heap.size,1,none⟩ = false := free_of hz6 1
    have f2 : w6.frozen? ⟨w.heap.size,2,none⟩ = false := free_of hz6 2
    have f3 : w6.frozen? ⟨w.heap.size,3,none⟩ = false := free_of hz6 3
    have f4 : w6.frozen? ⟨w.heap.size,4,none⟩ = false := free_of hz6 4
    have f5 : w6.frozen? ⟨w.heap.size,5,none⟩ = false := free_of hz6 5
    have f6 : w6.frozen? ⟨w.heap.size,6,none⟩ = false := free_of hz6 6
    have f7 : w6.frozen? ⟨w.heap.size,7,none⟩ = false := free_of hz6 7
    clear hz6 hb6
    unfold gotV
    go_wp2_with fail
    refine got_ret G6.out.below G6.out.blk rfl ?_
    intro Wf hR y0 y1 y2 y3 y4 y5 y6 y7
    exact bodyPost_ret (v := gotV 0 0 ⟨#[]⟩ 0 false 0 21 ((p : Int) + ((0 : Nat) : Int))) (by simp [results,Tryz.results61,go_sem,y0,y1,y2,y3,y4,y5,y6,y7,gotV]) rfl ⟨rfl,hR⟩
   ·have hI2 : I = if (valF 10 ((rest s p).take N) 0).2 = true then .tok 1 (valF 10 ((rest s p).take N) 0).1 [] N else .bad 6 0 := by
     rw [← HI.out];unfold numI;rw [← HN.out,hb0,if_neg (by rw [hz];simp)]
    clear hb0
    have hzz : ((s[p].toNat : Int) == 48) = false ∨ (((s[p].toNat : Int) == 48) = true ∧ ¬ ((p : Int) + 1 < (m : Int))) := by
     rcases Bool.eq_false_or_eq_true ((s[p].toNat : Int) == 48) with h | h
     ·right
      refine ⟨h,?_⟩
      rw [h] at hz
      have : ¬ 1 < N := by simpa using hz
      have := HMN.out
      omega
     ·exact .inl h
    have HI2 := Asd.mk hI2
    clear hz hI2
    have hpm : p ≤ m := by have := HMN.out;omega
    have hms : m ≤ s.size := by have := HMN.out;omega
    rcases hzz with hz | ⟨hz,hz2⟩
    all_goals
     go_wp2_with fail
     go_loop [6,7] (fun v6 v7 => ∃ (i : Nat) (n : Int),v7 = .int .i64 i ∧ v6 = .int .u64 n ∧ p ≤ i ∧ i ≤ m ∧ 0 ≤ n ∧ n ≤ 9223372036854775807 ∧ valF 10 (((rest s p).take N).drop (i - p)) n = valF 10 ((rest s p).take N) 0) (fun _ v7 => s.size - (intOf v7).toNat)
     case atStart => exact ⟨p,0,rfl,rfl,Nat.le_refl _,hpm,Int.le_refl _,by omega,by rw [Nat.sub_self];rfl⟩
     case round =>
      obtain ⟨i,n,rfl,rfl,hi1,hi2,hn1,hn2,hv⟩ := hrel
      have HV := Asd.mk hv
      clear hv
      by_cases him : i < m
      ·have his : i < s.size := by omega
       have hdg := run_byte digB s p i hi1 his (by rw [← HN.out,← HMN.out];exact him)
       have hdr : 48 ≤ (s[i].toNat : Int) ∧ (s[i].toNat : Int) ≤ 57 := by simpa [digB] using hdg
       have hst := HV.out
       rw [take_at s p N i hi1 (by rw [← HMN.out];exact him) his,valF,dgt_dig _ hdg] at hst
       have HST := Asd.mk hst
       clear hst hdg
       obtain ⟨hdr1,hdr2⟩ := hdr
       by_cases hbig : 922337203685477580 < n
       ·have hV : valF 10 ((rest s p).take N) 0 = (0,false) := by
         rw [← HST.out,if_pos (by simp only [Bool.or_eq_true,decide_eq_true_eq];omega)]
        obtain rfl : I = .bad 6 0 := by rw [HI2.out,hV];rfl
        clear hV
        clear HI2
        go_wp2_with fail
        refine (rbad_any 6 p _).mono ?_
        rintro e w6 ⟨rfl,hb6⟩
        have G6 := Asd.mk (F.out.step hb6)
        have hz6 := G6.out.blk
        have z0 : w6.cell? ⟨w.heap.size,0,none⟩ = some (.int .i64 0) := cell_of hz6 0
        have z1 : w6.cell? ⟨w.heap.size,1,none⟩ = some (.int .i64 0) := cell_of hz6 1
        have z2 : w6.cell? ⟨w.heap.size,2,none⟩ = some (.string ⟨#[]⟩) := cell_of hz6 2
        have z3 : w6.cell? ⟨w.heap.size,3,none⟩ = some (.int .i64 0) := cell_of hz6 3
        have z4 : w6.cell? ⟨w.heap.size,4,none⟩ = some (.bool false) := cell_of hz6 4
        have z5 : w6.cell? ⟨w.heap.size,5,none⟩ = some (.int .i64 0) := cell_of hz6 5
        have z6 : w6.cell? ⟨w.heap.size,6,none⟩ = some (.int .i64 0) := cell_of hz6 6
        have z7 : w6.cell? ⟨w.heap.size,7,none⟩ = some (.int .i64 0) := cell_of hz6 7
        have f0 : w6.frozen? ⟨w.heap.size,0,none⟩ = false := free_of hz6 0
        have f1 : w6.frozen? ⟨w.heap.size,1,none⟩ = false := free_of hz6 1
        have f2 : w6.frozen? ⟨w.heap.size,2,none⟩ = false := free_of hz6 2
        have f3 : w6.frozen? ⟨w.heap.size,3,none⟩ = false := free_of hz6 3
        have f4 : w6.frozen? ⟨w.heap.size,4,none⟩ = false := free_of hz6 4
        have f5 : w6.frozen? ⟨w.heap.size,5,none⟩ = false := free_of hz6 5
        have f6 : w6.frozen? ⟨w.heap.size,6,none⟩ = false := free_of hz6 6
        have f7 : w6.frozen? ⟨w.heap.size,7,none⟩ = false := free_of hz6 7
        clear hz6 hb6
        unfold gotV
        go_wp2_with fail
        refine got_ret G6.out.below G6.out.blk rfl ?_
        intro Wf hR y0 y1 y2 y3 y4 y5 y6 y7
        exact bodyPost_ret (v := gotV 0 0 ⟨#[]⟩ 0 false 0 6 ((p : Int) + ((0 : Nat) : Int))) (by simp [results,Tryz.results61,go_sem,y0,y1,y2,y3,y4,y5,y6,y7,gotV]) rfl ⟨rfl,hR⟩
       ·by_cases hover : 9223372036854775807 < n * 10 + ((s[i].toNat : Int) - 48)
        ·have hV : valF 10 ((rest s p).take N) 0 = (0,false) := by
          rw [← HST.out,if_pos (by simp only [Bool.or_eq_true,decide_eq_true_eq];omega)]
         obtain rfl : I = .bad 6 0 := by rw [HI2.out,hV];rfl
         clear hV
         clear HI2
         go_wp2_with fail
         refine (rbad_any 6 p _).mono ?_
         rintro e w6 ⟨rfl,hb6⟩
         have G6 := Asd.mk (F.out.step hb6)
         have hz6 := G6.out.blk
         have z0 : w6.cell? ⟨w.heap.size,0,none⟩ = some (.int .i64 0) := cell_of hz6 0
         have z1 : w6.cell? ⟨w.heap.size,1,none⟩ = some (.int .i64 0) := cell_of hz6 1
         have z2 : w6.cell? ⟨w.heap.size,2,none⟩ = some (.string ⟨#[]⟩) := cell_of hz6 2
         have z3 : w6.cell? ⟨w.heap.size,3,none⟩ = some (.int .i64 0) := cell_of hz6 3
         have z4 : w6.cell? ⟨w.heap.size,4,none⟩ = some (.bool false) := cell_of hz6 4
         have z5 : w6.cell? ⟨w.heap.size,5,none⟩ = some (.int .i64 0) := cell_of hz6 5
         have z6 : w6.cell? ⟨w.heap.size,6,none⟩ = some (.int .i64 0) := cell_of hz6 6
         have z7 : w6.cell? ⟨w.heap.size,7,none⟩ = some (.int .i64 0) := cell_of hz6 7
         have f0 : w6.frozen? ⟨w.heap.size,0,none⟩ = false := free_of hz6 0
         have f1 : w6.frozen? ⟨w.heap.size,1,none⟩ = false := free_of hz6 1
         have f2 : w6.frozen? ⟨w.heap.size,2,none⟩ = false := free_of hz6 2
         have f3 : w6.frozen? ⟨w.heap.size,3,none⟩ = false := free_of hz6 3
         have f4 : w6.frozen? ⟨w.heap.size,4,none⟩ = false := free_of hz6 4
         have f5 : w6.frozen? ⟨w.heap.size,5,none⟩ = false := free_of hz6 5
         have f6 : w6.frozen? ⟨w.heap.size,6,none⟩ = false := free_of hz6 6
         have f7 : w6.frozen? ⟨w.heap.size,7,none⟩ = false := free_of hz6 7
         clear hz6 hb6
         unfold gotV
         go_wp2_with fail
         refine got_ret G6.out.below G6.out.blk rfl ?_
         intro Wf hR y0 y1 y2 y3 y4 y5 y6 y7
         exact bodyPost_ret (v := gotV 0 0 ⟨#[]⟩ 0 false 0 6 ((p : Int) + ((0 : Nat) : Int))) (by simp [results,Tryz.results61,go_sem,y0,y1,y2,y3,y4,y5,y6,y7,gotV]) rfl ⟨rfl,hR⟩
        ·go_wp2_with fail
         go_round
         case rel => exact ⟨i + 1,n * 10 + ((s[i].toNat : Int) - 48),by go_num,rfl,by omega,by omega,by omega,by omega,by
          rw [← HST.out,if_neg]
          simp only [Bool.or_eq_true,decide_eq_true_eq,not_or];omega⟩
         case measure => simp [intOf];omega
      ·have him2 : i = m := by omega
       have hfin : valF 10 ((rest s p).take N) 0 = (n,true) := by
        rw [← HV.out,List.drop_of_length_le (by rw [List.length_take,rest_len];have := HMN.out;omega)]
        try rfl
       obtain rfl : I = .tok 1 n [] N := by rw [HI2.out,hfin];rfl
       have hz5 := F.out.blk
       have HX := Asd.mk (And.intro him2 hfin)
       clear HI2 HV hfin
       have z0 : W.cell? ⟨w.heap.size,0,none⟩ = some (.int .i64 0) := cell_of hz5 0
       have z1 : W.cell? ⟨w.heap.size,1,none⟩ = some (.int .i64 0) := cell_of hz5 1
       have z2 : W.cell? ⟨w.heap.size,2,none⟩ = some (.string ⟨#[]⟩) := cell_of hz5 2
       have z3 : W.cell? ⟨w.heap.size,3,none⟩ = some (.int .i64 0) := cell_of hz5 3
       have z4 : W.cell? ⟨w.heap.size,4,none⟩ = some (.bool false) := cell_of hz5 4
       have z5 : W.cell? ⟨w.heap.size,5,none⟩ = some (.int .i64 0) := cell_of hz5 5
       have z6 : W.cell? ⟨w.heap.size,6,none⟩ = some (.int .i64 0) := cell_of hz5 6
       have z7 : W.cell? ⟨w.heap.size,7,none⟩ = some (.int .i64 0) := cell_of hz5 7
       have f0 : W.frozen? ⟨w.heap.size,0,none⟩ = false := free_of hz5 0
       have f1 : W.frozen? ⟨w.heap.size,1,none⟩ = false := free_of hz5 1
       have f2 : W.frozen? ⟨w.heap.size,2,none⟩ = false := free_of hz5 2
       have f3 : W.frozen? ⟨w.heap.size,3,none⟩ = false := free_of hz5 3
       have f4 : W.frozen? ⟨w.heap.size,4,none⟩ = false := free_of hz5 4
       have f5 : W.frozen? ⟨w.heap.size,5,none⟩ = false := free_of hz5 5
       have f6 : W.frozen? ⟨w.heap.size,6,none⟩ = false := free_of hz5 6
       have f7 : W.frozen? ⟨w.heap.size,7,none⟩ = false := free_of hz5 7
       clear hz5
       go_wp2_with fail
       refine got_ret F.out.below F.out.blk rfl ?_
       intro Wf hR y0 y1 y2 y3 y4 y5 y6 y7
       exact bodyPost_ret (v := gotV 1 n (bytesOf []) p false ((p : Int) + (N : Int)) 0 0) (by simp [results,Tryz.results61,go_sem,y0,y1,y2,y3,y4,y5,y6,y7,gotV,bytesOf,HMN.out]) rfl ⟨rfl,hR⟩
end Go.Proofs.YtkoabcncdjmoeaaGreatDoor

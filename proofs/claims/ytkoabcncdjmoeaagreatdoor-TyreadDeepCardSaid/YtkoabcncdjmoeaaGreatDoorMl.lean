/- (*reader).sign. -/
import Derived.StillTailTactics
import Derived.Test.YtkoabcncdjmoeaaGreatDoorMj
import Derived.Test.YtkoabcncdjmoeaaGreatDoorMk
set_option linter.unusedSimpArgs false
set_option linter.unusedVariables false
set_option maxRecDepth 1000000
set_option maxHeartbeats 40000000
namespace Go.Proofs.YtkoabcncdjmoeaaGreatDoor
open Go.RowKit
def signI (l : List UInt8) : It := if (sgnW l == 0) = true then .bad 3 0 else .tok 5 0 (l.take (sgnW l).toNat) (sgnW l).toNat
theorem sgnW_nat (l : List UInt8) (h : 0 < l.length) : ∃ n : Nat,sgnW l = (n : Int) ∧ n ≤ l.length := by
 unfold sgnW
 split
 ·rename_i h1
  simp only [Bool.and_eq_true,decide_eq_true_eq] at h1
  exact ⟨2,rfl,h1.1⟩
 ·split
  ·exact ⟨1,rfl,h⟩
  ·exact ⟨0,rfl,Nat.zero_le _⟩
theorem Rd.drew {b : Nat} {s : ByteArray} {p : Nat} {w w1 : World} (h : Rd b s p w w1) : Rd b s p w w1.drew := ⟨h.os,h.tape,h.output,h.size,h.lt,h.block,h.here⟩
theorem ext_rest (s : ByteArray) (p : Nat) : (s.extract p s.size).data.toList = rest s p := Lib.extract_to_end s p
theorem ext_rest_size (s : ByteArray) (p : Nat) : (s.extract p s.size).size = s.size - p := by
 rw [← size_list,ext_rest,rest_len]
theorem sign_any (b : Nat) (s : ByteArray) (p : Nat) (w : World) (hs : s.size ≤ maxLen) (hp : p < s.size) (h : Rd b s p w w) :
  Calls Tryz.prog 74 #[.pointer (some ⟨b,0,none⟩)] w fun e w' => ItP (signI (rest s p)) b s p w e w' := by
 generalize hI : signI (rest s p) = I
 have F := Asd.mk (tok_start b s p w h _ rfl)
 have c0 := h.c0
 have c1 := h.c1
 have hbl := h.lt
 clear h
 obtain ⟨n,hn,hle⟩ := sgnW_nat (rest s p) (by rw [rest_len];omega)
 rw [rest_len] at hle
 have XX := Asd.mk (fun w => signWidth_any (s.extract p s.size) w (by rw [ext_rest_size];omega) (by rw [ext_rest_size];omega))
 rw [ext_rest,hn] at XX
 have HI := Asd.mk hI
 unfold signI at HI
 rw [hn] at HI
 clear hI hn
 unfold maxLen at hs
 have hpi : (p : Int) ≤ (s.size : Int) := by omega
 have hple : p ≤ s.size := by omega
 by_cases h0 : n = 0
 ·subst h0
  obtain rfl : I = .bad 3 0 := by rw [← HI.out];rfl
  clear HI
  go_enter Tryz.func74,Tryz.ntmps74
  go_wp2_with fail
  refine (XX.out _).mono ?_
  rintro e w5 ⟨rfl,rfl⟩
  generalize w.alloc (.cells #[.int .i64 0,.int .i64 0,.string ⟨#[]⟩,.int .i64 0] 56) = W at F ⊢
  go_wp2_with fail
  refine (failed_any 3 p _ rfl).mono ?_
  rintro e w6 ⟨rfl,hb6⟩
  have hz6 := below_blk hb6 (F.out.2)
  have E6 := Asd.mk (And.intro (Rd.below (F.out.1) hb6) hz6)
  have z0 : w6.cell? ⟨w.heap.size,0,none⟩ = some (.int .i64 0) := cell_of hz6 0
  have z1 : w6.cell? ⟨w.heap.size,1,none⟩ = some (.int .i64 0) := cell_of hz6 1
  have z2 : w6.cell? ⟨w.heap.size,2,none⟩ = some (.string ⟨#[]⟩) := cell_of hz6 2
  have z3 : w6.cell? ⟨w.heap.size,3,none⟩ = some (.int .i64 0) := cell_of hz6 3
  have f0 : w6.frozen? ⟨w.heap.size,0,none⟩ = false := free_of hz6 0
  have f1 : w6.frozen? ⟨w.heap.size,1,none⟩ = false := free_of hz6 1
  have f2 : w6.frozen? ⟨w.heap.size,2,none⟩ = false := free_of hz6 2
  have f3 : w6.frozen? ⟨w.heap.size,3,none⟩ = false := free_of hz6 3
  clear hz6 hb6
  unfold noTok errV
  go_wp2_with fail
  refine tok_ret E6.out.1 E6.out.2 rfl ?_
  intro Wf hR y0 y1 y2 y3
  exact bodyPost_ret (v := .tuple #[noTok,errV 3 ((p : Int) + ((0 : Nat) : Int))]) (by simp [results,Tryz.results74,go_sem,y0,y1,y2,y3,noTok,errV]) rfl ⟨rfl,_,hR⟩
 ·have hz0 : ((n : Int) == 0) = false := by rw [beq_eq_false_iff_ne];omega
  obtain rfl : I = .tok 5 0 ((rest s p).take n) n := by rw [← HI.out,hz0];simp
  clear HI h0
  go_enter Tryz.func74,Tryz.ntmps74
  go_wp2_with fail
  refine (XX.out _).mono ?_
  rintro e w5 ⟨rfl,rfl⟩
  generalize w.alloc (.cells #[.int .i64 0,.int .i64 0,.string ⟨#[]⟩,.int .i64 0] 56) = W at F ⊢
  have c1 := F.out.1.c1
  have f1 := F.out.1.f1
  go_wp2_with fail
  have hp2 : (p : Int) ≤ (p : Int) + (n : Int) := by omega
  have hp3 : (p : Int) + (n : Int) ≤ (s.size : Int) := by omega
  have E := Asd.mk (And.intro (F.out.1.put (p + n) ((p : Int) + (n : Int)) (by omega)) (show (W.setCell ⟨b,1,none⟩ (.int .i64 ((p : Int) + (n : Int)))).heap[w.heap.size]? = some (.cells zeroTok 56 (0,0)) by rw [Below.heap_setCell _ _ _ _ (show w.heap.size ≠ b by omega)];exact F.out.2))
  clear c0 c1 f1
  generalize W.setCell ⟨b,1,none⟩ (.int .i64 ((p : Int) + (n : Int))) = W2 at E ⊢
  have c0 := E.out.1.c0
  have c1 : W2.cell? ⟨b,1,none⟩ = some (.int .i64 ((p : Int) + (n : Int))) := by rw [E.out.1.c1];simp
  go_still_tail 12,(by kernel_rfl)
  clear c0 c1
  change wpList _ _ _ _ _ W2.drew
  have E5 := Asd.mk (And.intro E.out.1.drew (show W2.drew.heap[w.heap.size]? = some (.cells zeroTok 56 (0,0)) from E.out.2))
  clear E
  generalize W2.drew = W3 at E5 ⊢
  have c0 := E5.out.1.c0
  have c1 : W3.cell? ⟨b,1,none⟩ = some (.int .i64 ((p : Int) + (n : Int))) := by rw [E5.out.1.c1];simp
  have hz5 := E5.out.2
  have z0 : W3.cell? ⟨w.heap.size,0,none⟩ = some (.int .i64 0) := cell_of hz5 0
  have z1 : W3.cell? ⟨w.heap.size,1,none⟩ = some (.int .i64 0) := cell_of hz5 1
  have z2 : W3.cell? ⟨w.heap.size,2,none⟩ = some (.string ⟨#[]⟩) := cell_of hz5 2
  have z3 : W3.cell? ⟨w.heap.size,3,none⟩ = some (.int .i64 0) := cell_of hz5 3
  have f0 : W3.frozen? ⟨w.heap.size,0,none⟩ = false := free_of hz5 0
  have f1 : W3.frozen? ⟨w.heap.size,1,none⟩ = false := free_of hz5 1
  have f2 : W3.frozen? ⟨w.heap.size,2,none⟩ = false := free_of hz5 2
  have f3 : W3.frozen? ⟨w.heap.size,3,none⟩ = false := free_of hz5 3
  clear hz5
  go_wp2_with fail
  have hT : s.extract p (p + n) = bytesOf ((rest s p).take n) := ext_eq s p n
  rw [hT]
  refine tok_ret E5.out.1 E5.out.2 rfl ?_
  intro Wf hR y0 y1 y2 y3
  exact bodyPost_ret (v := .tuple #[tokV 5 0 (bytesOf ((rest s p).take n)) p,.nilIface]) (by simp [results,Tryz.results74,go_sem,y0,y1,y2,y3,tokV]) rfl ⟨rfl,hR⟩
end Go.Proofs.YtkoabcncdjmoeaaGreatDoor

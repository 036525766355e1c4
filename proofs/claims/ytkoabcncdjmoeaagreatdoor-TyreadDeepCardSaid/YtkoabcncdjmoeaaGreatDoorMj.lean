/- Parts of the proof: LexNum, LexWord. -/
import Derived.Laws.EntriesVeiled
import Derived.Test.YtkoabcncdjmoeaaGreatDoorMh
import Derived.Test.YtkoabcncdjmoeaaGreatDoorMi
set_option linter.unusedSimpArgs false
set_option linter.unusedVariables false
set_option maxRecDepth 1000000
set_option maxHeartbeats 40000000
namespace Go.Proofs.YtkoabcncdjmoeaaGreatDoor
open Go.RowKit
inductive It where
  | tok (k n : Int) (t : List UInt8) (wd : Nat)
  | bad (c : Int) (o : Nat)
def bytesOf (t : List UInt8) : ByteArray := ⟨t.toArray⟩
def ItP (it : It) (b : Nat) (s : ByteArray) (p : Nat) (w : World) (e : Ending) (w' : World) : Prop :=
 match it with
 | .tok k n t wd => e = .returned (.tuple #[tokV k n (bytesOf t) p,.nilIface]) ∧ Rd b s (p + wd) w w'
 | .bad c o => e = .returned (.tuple #[noTok,errV c ((p : Int) + o)]) ∧ ∃ q,Rd b s q w w'
theorem ext_eq (s : ByteArray) (p n : Nat) : s.extract p (p + n) = bytesOf ((rest s p).take n) := by
 unfold bytesOf rest
 apply ByteArray.ext
 apply Array.toList_inj.1
 rw [Lib.extract_data]
 simp
theorem Rd.blk {b : Nat} {s : ByteArray} {p : Nat} {w w1 : World} (h : Rd b s p w w1) {k : Nat} {o : Obj} (hb : k ≠ b) (hc : w.heap[k]? = some o) : w1.heap[k]? = some o := by
 rw [← hc]
 exact h.block k (Nat.lt_of_not_le fun hn => by simp [Array.getElem?_eq_none hn] at hc) hb
theorem cell_of {w : World} {k : Nat} {cs : Array Value} {t : TypeId} (h : w.heap[k]? = some (.cells cs t (0,0))) (j : Nat) : w.cell? ⟨k,j,none⟩ = cs[j]? := Lib.cell_of_heap h j
theorem free_of {w : World} {k : Nat} {cs : Array Value} {t : TypeId} (h : w.heap[k]? = some (.cells cs t (0,0))) (j : Nat) : w.frozen? ⟨k,j,none⟩ = false := Lib.frozen_of_heap h j
theorem alloc_blk (w : World) (o : Obj) : (w.alloc o).heap[w.heap.size]? = some o := by
 show (w.heap.push o)[w.heap.size]? = _
 simp
theorem blk_lt {w : World} {k : Nat} {o : Obj} (h : w.heap[k]? = some o) : k < w.heap.size := Nat.lt_of_not_le fun hn => by simp [Array.getElem?_eq_none hn] at h
theorem below_blk {w w1 : World} (hb : Below w.heap.size w w1) {k : Nat} {o : Obj} (h : w.heap[k]? = some o) : w1.heap[k]? = some o := (hb.block k (blk_lt h)).trans h
def zeroTok : Array Value := #[.int .i64 0,.int .i64 0,.string ⟨#[]⟩,.int .i64 0]
def numI (l : List UInt8) : It :=
 if (decide (1 < runN digB l) && bI l 0 == 48) = true then .bad 21 0
 else if (valF 10 (l.take (runN digB l)) 0).2 = true then .tok 1 (valF 10 (l.take (runN digB l)) 0).1 [] (runN digB l) else .bad 6 0
theorem num_start (b : Nat) (s : ByteArray) (p : Nat) (w : World) (h : Rd b s p w w) (W : World) (hW : W = ((w.alloc (.cells #[.int .i64 0,.int .i64 0,.string ⟨#[]⟩,.int .i64 0] 56)).alloc (.cells #[.int .i64 10] 3)).alloc (.cells #[.func (.func 122) #[] #[.pointer (some ⟨w.heap.size + 1,0,none⟩)]] 132)) :
  Rd b s p w W ∧ W.heap[w.heap.size]? = some (.cells zeroTok 56 (0,0)) ∧ W.cell? ⟨w.heap.size + 1,0,none⟩ = some (.int .i64 10) ∧ W.cell? ⟨w.heap.size + 1 + 1,0,none⟩ = some (.func (.func 122) #[] #[.pointer (some ⟨w.heap.size + 1,0,none⟩)]) := by
 subst hW
 refine ⟨((h.alloc _).alloc _).alloc _,?_,?_,?_⟩
 ·rw [Below.heap_alloc _ _ _ (by simp;omega),Below.heap_alloc _ _ _ (by simp),alloc_blk];rfl
 ·rw [World.cell?_alloc_lt _ _ _ (by simp)]
  simp
 ·have := cellNew ((w.alloc (.cells #[.int .i64 0,.int .i64 0,.string ⟨#[]⟩,.int .i64 0] 56)).alloc (.cells #[.int .i64 10] 3)) #[.func (.func 122) #[] #[.pointer (some ⟨w.heap.size + 1,0,none⟩)]] 132 0 _ rfl
  simpa using this
theorem tok_stored {w : World} {r : Nat} {cs : Array Value} {t : TypeId} (hz : w.heap[r]? = some (.cells cs t (0,0))) (hc : cs.size = 4) (v0 v1 v2 v3 : Value) :
  ((((w.setCell ⟨r,0,none⟩ v0).setCell ⟨r,1,none⟩ v1).setCell ⟨r,2,none⟩ v2).setCell ⟨r,3,none⟩ v3).heap[r]? = some (.cells #[v0,v1,v2,v3] t (0,0)) := by
 match cs,hc with
 | ⟨[a,b,c,d]⟩,_ => simp [World.setCell,Array.getElem?_modify,hz]
theorem Rd.tok {b : Nat} {s : ByteArray} {q : Nat} {w w5 : World} (h : Rd b s q w w5) (v0 v1 v2 v3 : Value) :
  Rd b s q w ((((w5.setCell ⟨w.heap.size,0,none⟩ v0).setCell ⟨w.heap.size,1,none⟩ v1).setCell ⟨w.heap.size,2,none⟩ v2).setCell ⟨w.heap.size,3,none⟩ v3) :=
 (((h.own (Nat.le_refl _) _).own (Nat.le_refl _) _).own (Nat.le_refl _) _).own (Nat.le_refl _) _
theorem tok_ret {P : Program} {f : Func} {Q : Ending -> World -> Prop} {a : Act} {b : Nat} {s : ByteArray} {q : Nat} {w w5 : World} {cs : Array Value} {t : TypeId} {v0 v1 v2 v3 : Value}
  (h : Rd b s q w w5) (hz : w5.heap[w.heap.size]? = some (.cells cs t (0,0))) (hc : cs.size = 4)
  (hQ : ∀ W,Rd b s q w W -> W.cell? ⟨w.heap.size,0,none⟩ = some v0 -> W.cell? ⟨w.heap.size,1,none⟩ = some v1 -> W.cell? ⟨w.heap.size,2,none⟩ = some v2 -> W.cell? ⟨w.heap.size,3,none⟩ = some v3 -> bodyPost P f Q Exit.ret a W) :
  bodyPost P f Q Exit.ret a ((((w5.setCell ⟨w.heap.size,0,none⟩ v0).setCell ⟨w.heap.size,1,none⟩ v1).setCell ⟨w.heap.size,2,none⟩ v2).setCell ⟨w.heap.size,3,none⟩ v3) := by
 have hs := tok_stored hz hc v0 v1 v2 v3
 exact hQ _ (h.tok v0 v1 v2 v3) (cell_of hs 0) (cell_of hs 1) (cell_of hs 2) (cell_of hs 3)
def TakeP (q : Int -> Bool) (b : Nat) (s : ByteArray) (p : Nat) (w : World) (e : Ending) (w' : World) : Prop :=
 ∃ T : ByteArray,e = .returned (.string T) ∧ T.size = runN q (rest s p) ∧ T.data.toList = (rest s p).take T.size ∧ Rd b s (p + T.size) w w' ∧ T.size ≤ s.size
theorem takeP_of {q : Int -> Bool} {b : Nat} {s : ByteArray} {p : Nat} {w : World} {e : Ending} {w' : World} (h : e = .returned (.string (s.extract p (p + runN q (rest s p)))) ∧ Rd b s (p + runN q (rest s p)) w w') : TakeP q b s p w e w' := by
 have hle := runN_le q (rest s p)
 rw [rest_len] at hle
 have hsz : (s.extract p (p + runN q (rest s p))).size = runN q (rest s p) := by
  rw [ext_eq]
  show (List.take _ _).length = _
  rw [List.length_take,rest_len]
  omega
 refine ⟨_,h.1,hsz,?_,by rw [hsz];exact h.2,by omega⟩
 rw [hsz,ext_eq]
 try rfl
theorem bI_take (l : List UInt8) (n : Nat) (h : 0 < n) : bI (l.take n) 0 = bI l 0 := by
 unfold bI
 cases l with
 | nil => simp
 | cons a r =>
  cases n with
  | zero => omega
  | succ n => rfl
theorem numI_T {l : List UInt8} {T : ByteArray} (h1 : T.size = runN digB l) (h2 : T.data.toList = l.take T.size) :
  numI l = if (decide (1 < T.size) && bI T.data.toList 0 == 48) = true then .bad 21 0 else if (valF 10 T.data.toList 0).2 = true then .tok 1 (valF 10 T.data.toList 0).1 [] T.size else .bad 6 0 := by
 unfold numI
 rw [← h1,← h2]
 by_cases h : 1 < T.size
 ·rw [show bI l 0 = bI T.data.toList 0 by rw [h2,bI_take _ _ (by omega)]]
 ·simp [h]
theorem number_any (b : Nat) (s : ByteArray) (p : Nat) (w : World) (hs : s.size ≤ maxLen) (hp : p ≤ s.size) (h : Rd b s p w w) :
  Calls Tryz.prog 70 #[.pointer (some ⟨b,0,none⟩)] w fun e w' => ItP (numI (rest s p)) b s p w e w' := by
 have hmf : ∀ (fn : Fn) (first cap : Array Value) (w : World),(Instr.makeFunc fn first cap).run Tryz.prog w = .ok (.func fn first cap) w := fun _ _ _ _ => rfl
 generalize hI : numI (rest s p) = I
 have HI := Asd.mk hI
 clear hI
 have F := Asd.mk (num_start b s p w h _ rfl)
 have c1 := h.c1
 have hbl := h.lt
 clear h
 go_enter Tryz.func70,Tryz.ntmps70
 go_wp2_with fail
 refine (digits_any 10 _).mono ?_
 rintro e w1 ⟨rfl,rfl⟩
 go_wp2_with fail
 generalize (((w.alloc (.cells #[.int .i64 0,.int .i64 0,.string ⟨#[]⟩,.int .i64 0] 56)).alloc (.cells #[.int .i64 10] 3)).alloc (.cells #[.func (.func 122) #[] #[.pointer (some ⟨w.heap.size + 1,0,none⟩)]] 132)) = W at F ⊢
 refine ((take_num b s p (w.heap.size + 1) (w.heap.size + 1 + 1) W hs hp (Rd.refl F.out.1.here) (by omega) (by omega) F.out.2.2.1 F.out.2.2.2).mono fun _ _ hh => takeP_of hh).mono ?_
 rintro e w4 ⟨T,rfl,hT1,hT2,hrd,hTs⟩
 have hz := hrd.blk (k := w.heap.size) (by omega) F.out.2.1
 have HI2 : I = if (decide (1 < T.size) && bI T.data.toList 0 == 48) = true then .bad 21 0 else if (valF 10 T.data.toList 0).2 = true then .tok 1 (valF 10 T.data.toList 0).1 [] T.size else .bad 6 0 := by rw [← HI.out,numI_T hT1 hT2]
 have E := Asd.mk (And.intro (F.out.1.trans hrd) (And.intro hz HI2))
 clear HI2
 have hTm : T.size ≤ maxLen := Nat.le_trans hTs hs
 have XX := Asd.mk (value10_any T w4 hTm)
 have z0 : w4.cell? ⟨w.heap.size,0,none⟩ = some (.int .i64 0) := cell_of hz 0
 have z1 : w4.cell? ⟨w.heap.size,1,none⟩ = some (.int .i64 0) := cell_of hz 1
 have z2 : w4.cell? ⟨w.heap.size,2,none⟩ = some (.string ⟨#[]⟩) := cell_of hz 2
 have z3 : w4.cell? ⟨w.heap.size,3,none⟩ = some (.int .i64 0) := cell_of hz 3
 clear hrd F hz hT1 hT2 HI
 unfold maxLen at hTm
 by_cases hA : ∃ h : 1 < T.size,((T[0]'(by omega)).toNat : Int) = 48
 ·obtain ⟨hA1,hA2⟩ := hA
  obtain rfl : I = .bad 21 0 := by rw [E.out.2.2,bI_get T 0 (by omega),hA2];simp [hA1]
  have hA3 : ((T[0].toNat : Int) == 48) = true := by simpa using hA2
  clear hA2 XX z0 z1 z2 z3
  go_wp2_with fail
  refine (failed_any 21 p _ rfl).mono ?_
  rintro e w6 ⟨rfl,hb6⟩
  have hz6 := below_blk hb6 E.out.2.1
  have E6 := Asd.mk (And.intro (E.out.1.below hb6) hz6)
  have z0 : w6.cell? ⟨w.heap.size,0,none⟩ = some (.int .i64 0) := cell_of hz6 0
  have z1 : w6.cell? ⟨w.heap.size,1,none⟩ = some (.int .i64 0) := cell_of hz6 1
  have z2 : w6.cell? ⟨w.heap.size,2,none⟩ = some (.string ⟨#[]⟩) := cell_of hz6 2
  have z3 : w6.cell? ⟨w.heap.size,3,none⟩ = some (.int .i64 0) := cell_of hz6 3
  have f0 : w6.frozen? ⟨w.heap.size,0,none⟩ = false := free_of hz6 0
  have f1 : w6.frozen? ⟨w.heap.size,1,none⟩ = false := free_of hz6 1
  have f2 : w6.frozen? ⟨w.heap.size,2,none⟩ = false := free_of hz6 2
  have f3 : w6.frozen? ⟨w.heap.size,3,none⟩ = false := free_of hz6 3
  clear hz6 hb6
  unfold noTok errV
  go_wp2_with fail
  refine tok_ret E6.out.1 E6.out.2 rfl ?_
  intro Wf hR y0 y1 y2 y3
  exact bodyPost_ret (v := .tuple #[noTok,errV 21 ((p : Int) + ((0 : Nat) : Int))]) (by simp [results,Tryz.results70,go_sem,y0,y1,y2,y3,noTok,errV]) rfl ⟨rfl,_,hR⟩
 have hI2 : I = if (valF 10 T.data.toList 0).2 = true then .tok 1 (valF 10 T.data.toList 0).1 [] T.size else .bad 6 0 := by
  rw [E.out.2.2,if_neg]
  intro hh
  simp only [Bool.and_eq_true,decide_eq_true_eq,beq_iff_eq] at hh
  exact hA ⟨hh.1,by rw [← bI_get T 0 (by omega)];exact hh.2⟩
 have EE := Asd.mk (And.intro E.out.1 E.out.2.1)
 clear E
 generalize valF 10 T.data.toList 0 = V at XX hI2
 obtain ⟨n,ok⟩ := V
 clear z0 z1 z2 z3
 rcases Bool.eq_false_or_eq_true ok with rfl | rfl
 ·obtain rfl : I = .tok 1 n [] T.size := by rw [hI2];rfl
  clear hI2
  by_cases h1 : 1 < T.size
  ·have hA3 : ((T[0].toNat : Int) == 48) = false := by rw [beq_eq_false_iff_ne];exact fun h => hA ⟨h1,h⟩
   clear hA
   go_wp2_with fail
   refine XX.out.mono ?_
   rintro e w5 ⟨rfl,hb5⟩
   have hz5 := below_blk hb5 EE.out.2
   have E5 := Asd.mk (And.intro (EE.out.1.below hb5) hz5)
   have z0 : w5.cell? ⟨w.heap.size,0,none⟩ = some (.int .i64 0) := cell_of hz5 0
   have z1 : w5.cell? ⟨w.heap.size,1,none⟩ = some (.int .i64 0) := cell_of hz5 1
   have z2 : w5.cell? ⟨w.heap.size,2,none⟩ = some (.string ⟨#[]⟩) := cell_of hz5 2
   have z3 : w5.cell? ⟨w.heap.size,3,none⟩ = some (.int .i64 0) := cell_of hz5 3
   have f0 : w5.frozen? ⟨w.heap.size,0,none⟩ = false := free_of hz5 0
   have f1 : w5.frozen? ⟨w.heap.size,1,none⟩ = false := free_of hz5 1
   have f2 : w5.frozen? ⟨w.heap.size,2,none⟩ = false := free_of hz5 2
   have f3 : w5.frozen? ⟨w.heap.size,3,none⟩ = false := free_of hz5 3
   clear hz5 hb5
   go_wp2_with fail
   refine tok_ret E5.out.1 E5.out.2 rfl ?_
   intro Wf hR y0 y1 y2 y3
   exact bodyPost_ret (v := .tuple #[tokV 1 n (bytesOf []) p,.nilIface]) (by simp [results,Tryz.results70,go_sem,y0,y1,y2,y3,tokV,bytesOf]) rfl ⟨rfl,hR⟩
  ·clear hA
   go_wp2_with fail
   refine XX.out.mono ?_
   rintro e w5 ⟨rfl,hb5⟩
   have hz5 := below_blk hb5 EE.out.2
   have E5 := Asd.mk (And.intro (EE.out.1.below hb5) hz5)
   have z0 : w5.cell? ⟨w.heap.size,0,none⟩ = some (.int .i64 0) := cell_of hz5 0
   have z1 : w5.cell? ⟨w.heap.size,1,none⟩ = some (.int .i64 0) := cell_of hz5 1
   have z2 : w5.cell? ⟨w.heap.size,2,none⟩ = some (.string ⟨#[]⟩) := cell_of hz5 2
   have z3 : w5.cell? ⟨w.heap.size,3,none⟩ = some (.int .i64 0) := cell_of hz5 3
   have f0 : w5.frozen? ⟨w.heap.size,0,none⟩ = false := free_of hz5 0
   have f1 : w5.frozen? ⟨w.heap.size,1,none⟩ = false := free_of hz5 1
   have f2 : w5.frozen? ⟨w.heap.size,2,none⟩ = false := free_of hz5 2
   have f3 : w5.frozen? ⟨w.heap.size,3,none⟩ = false := free_of hz5 3
   clear hz5 hb5
   go_wp2_with fail
   refine tok_ret E5.out.1 E5.out.2 rfl ?_
   intro Wf hR y0 y1 y2 y3
   exact bodyPost_ret (v := .tuple #[tokV 1 n (bytesOf []) p,.nilIface]) (by simp [results,Tryz.results70,go_sem,y0,y1,y2,y3,tokV,bytesOf]) rfl ⟨rfl,hR⟩
 ·obtain rfl : I = .bad 6 0 := by rw [hI2];rfl
  clear hI2
  by_cases h1 : 1 < T.size
  ·have hA3 : ((T[0].toNat : Int) == 48) = false := by rw [beq_eq_false_iff_ne];exact fun h => hA ⟨h1,h⟩
   clear hA
   go_wp2_with fail
   refine XX.out.mono ?_
   rintro e w5 ⟨rfl,hb5⟩
   go_wp2_with fail
   refine (failed_any 6 p _ rfl).mono ?_
   rintro e w6 ⟨rfl,hb6⟩
   have hz6 := below_blk hb6 (below_blk hb5 EE.out.2)
   have E6 := Asd.mk (And.intro ((EE.out.1.below hb5).below hb6) hz6)
   have z0 : w6.cell? ⟨w.heap.size,0,none⟩ = some (.int .i64 0) := cell_of hz6 0
   have z1 : w6.cell? ⟨w.heap.size,1,none⟩ = some (.int .i64 0) := cell_of hz6 1
   have z2 : w6.cell? ⟨w.heap.size,2,none⟩ = some (.string ⟨#[]⟩) := cell_of hz6 2
   have z3 : w6.cell? ⟨w.heap.size,3,none⟩ = some (.int .i64 0) := cell_of hz6 3
   have f0 : w6.frozen? ⟨w.heap.size,0,none⟩ = false := free_of hz6 0
   have f1 : w6.frozen? ⟨w.heap.size,1,none⟩ = false := free_of hz6 1
   have f2 : w6.frozen? ⟨w.heap.size,2,none⟩ = false := free_of hz6 2
   have f3 : w6.frozen? ⟨w.heap.size,3,none⟩ = false := free_of hz6 3
   clear hz6 hb6
   unfold noTok errV
   go_wp2_with fail
   refine tok_ret E6.out.1 E6.out.2 rfl ?_
   intro Wf hR y0 y1 y2 y3
   exact bodyPost_ret (v := .tuple #[noTok,errV 6 ((p : Int) + ((0 : Nat) : Int))]) (by simp [results,Tryz.results70,go_sem,y0,y1,y2,y3,noTok,errV]) rfl ⟨rfl,_,hR⟩
  ·clear hA
   go_wp2_with fail
   refine XX.out.mono ?_
   rintro e w5 ⟨rfl,hb5⟩
   go_wp2_with fail
   refine (failed_any 6 p _ rfl).mono ?_
   rintro e w6 ⟨rfl,hb6⟩
   have hz6 := below_blk hb6 (below_blk hb5 EE.out.2)
   have E6 := Asd.mk (And.intro ((EE.out.1.below hb5).below hb6) hz6)
   have z0 : w6.cell? ⟨w.heap.size,0,none⟩ = some (.int .i64 0) := cell_of hz6 0
   have z1 : w6.cell? ⟨w.heap.size,1,none⟩ = some (.int .i64 0) := cell_of hz6 1
   have z2 : w6.cell? ⟨w.heap.size,2,none⟩ = some (.string ⟨#[]⟩) := cell_of hz6 2
   have z3 : w6.cell? ⟨w.heap.size,3,none⟩ = some (.int .i64 0) := cell_of hz6 3
   have f0 : w6.frozen? ⟨w.heap.size,0,none⟩ = false := free_of hz6 0
   have f1 : w6.frozen? ⟨w.heap.size,1,none⟩ = false := free_of hz6 1
   have f2 : w6.frozen? ⟨w.heap.size,2,none⟩ = false := free_of hz6 2
   have f3 : w6.frozen? ⟨w.heap.size,3,none⟩ = false := free_of hz6 3
   clear hz6 hb6
   unfold noTok errV
   go_wp2_with fail
   refine tok_ret E6.out.1 E6.out.2 rfl ?_
   intro Wf hR y0 y1 y2 y3
   exact bodyPost_ret (v := .tuple #[noTok,errV 6 ((p : Int) + ((0 : Nat) : Int))]) (by simp [results,Tryz.results70,go_sem,y0,y1,y2,y3,noTok,errV]) rfl ⟨rfl,_,hR⟩
theorem bytesOf_self (T : ByteArray) : bytesOf T.data.toList = T := by
 apply ByteArray.ext
 simp [bytesOf]
def wordI (l : List UInt8) : It :=
 if 8 < runN alnB l then .bad 6 0
 else if (kindI (l.take (runN alnB l)) == 1 || kindI (l.take (runN alnB l)) == 3) = true then .tok 3 0 (l.take (runN alnB l)) (runN alnB l)
 else if (kindI (l.take (runN alnB l)) == 2 || kindI (l.take (runN alnB l)) == 4) = true then .tok 4 0 (l.take (runN alnB l)) (runN alnB l)
 else .bad 2 0
theorem wordI_T {l : List UInt8} {T : ByteArray} (h1 : T.size = runN alnB l) (h2 : T.data.toList = l.take T.size) :
  wordI l = if 8 < T.size then .bad 6 0 else if (kindI T.data.toList == 1 || kindI T.data.toList == 3) = true then .tok 3 0 T.data.toList T.size else if (kindI T.data.toList == 2 || kindI T.data.toList == 4) = true then .tok 4 0 T.data.toList T.size else .bad 2 0 := by
 unfold wordI
 rw [← h1,← h2]
theorem tok_start (b : Nat) (s : ByteArray) (p : Nat) (w : World) (h : Rd b s p w w) (W : World) (hW : W = w.alloc (.cells #[.int .i64 0,.int .i64 0,.string ⟨#[]⟩,.int .i64 0] 56)) :
  Rd b s p w W ∧ W.heap[w.heap.size]? = some (.cells zeroTok 56 (0,0)) := by
 subst hW
 exact ⟨h.alloc _,alloc_blk _ _⟩
theorem word_any (b : Nat) (s : ByteArray) (p : Nat) (w : World) (hs : s.size ≤ maxLen) (hp : p ≤ s.size) (h : Rd b s p w w) :
  Calls Tryz.prog 72 #[.pointer (some ⟨b,0,none⟩)] w fun e w' => ItP (wordI (rest s p)) b s p w e w' := by
 generalize hI : wordI (rest s p) = I
 have HI := Asd.mk hI
 clear hI
 have F := Asd.mk (tok_start b s p w h _ rfl)
 have c1 := h.c1
 have hbl := h.lt
 clear h
 go_enter Tryz.func72,Tryz.ntmps72
 go_wp2_with fail
 generalize w.alloc (.cells #[.int .i64 0,.int .i64 0,.string ⟨#[]⟩,.int .i64 0] 56) = W at F ⊢
 refine ((take_word b s p W hs hp (Rd.refl F.out.1.here)).mono fun _ _ hh => takeP_of hh).mono ?_
 rintro e w4 ⟨T,rfl,hT1,hT2,hrd,hTs⟩
 have hz := hrd.blk (k := w.heap.size) (by omega) F.out.2
 have E := Asd.mk (And.intro (F.out.1.trans hrd) hz)
 have hI2 : I = if 8 < T.size then .bad 6 0 else if (kindI T.data.toList == 1 || kindI T.data.toList == 3) = true then .tok 3 0 T.data.toList T.size else if (kindI T.data.toList == 2 || kindI T.data.toList == 4) = true then .tok 4 0 T.data.toList T.size else .bad 2 0 := by rw [← HI.out,wordI_T hT1 hT2]
 have hTm : T.size ≤ maxLen := Nat.le_trans hTs hs
 have XX := Asd.mk (nkind_any T w4 hTm)
 clear hrd F hz hT1 hT2 HI
 unfold maxLen at hTm
 by_cases h8 : 8 < T.size
 ·obtain rfl : I = .bad 6 0 := by rw [hI2,if_pos h8]
  clear hI2 XX
  go_wp2_with fail
  refine (failed_any 6 p _ rfl).mono ?_
  rintro e w6 ⟨rfl,hb6⟩
  have hz6 := below_blk hb6 (E.out.2)
  have E6 := Asd.mk (And.intro (Rd.below (E.out.1) hb6) hz6)
  have z0 : w6.cell? ⟨w.heap.size,0,none⟩ = some (.int .i64 0) := cell_of hz6 0
  have z1 : w6.cell? ⟨w.heap.size,1,none⟩ = some (.int .i64 0) := cell_of hz6 1
  have z2 : w6.cell? ⟨w.heap.size,2,none⟩ = some (.string ⟨#[]⟩) := cell_of hz6 2
  have z3 : w6.cell? ⟨w.heap.size,3,none⟩ = some (.int .i64 0) := cell_of hz6 3
  have f0 : w6.frozen? ⟨w.heap.size,0,none⟩ = false := free_of hz6 0
  have f1 : w6.frozen? ⟨w.heap.size,1,none⟩ = false := free_of hz6 1
  have f2 : w6.frozen? ⟨w.heap.size,2,none⟩ = false := free_of hz6 2
  have f3 : w6.frozen? ⟨w.heap.size,3,none⟩ = false := free_of hz6 3
  clear hz6 hb6
  unfold noTok errV
  go_wp2_with fail
  refine tok_ret E6.out.1 E6.out.2 rfl ?_
  intro Wf hR y0 y1 y2 y3
  exact bodyPost_ret (v := .tuple #[noTok,errV 6 ((p : Int) + ((0 : Nat) : Int))]) (by simp [results,Tryz.results72,go_sem,y0,y1,y2,y3,noTok,errV]) rfl ⟨rfl,_,hR⟩
 rw [if_neg h8] at hI2
 generalize hk : kindI T.data.toList = kk at XX hI2
 clear hk
 rcases Bool.eq_false_or_eq_true (kk == 1) with k1 | k1
 ·obtain rfl : I = .tok 3 0 T.data.toList T.size := by rw [hI2,k1];rfl
  clear hI2
  go_wp2_with fail
  refine XX.out.mono ?_
  rintro e w5 ⟨rfl,hb5⟩
  have hz5 := below_blk hb5 E.out.2
  have E5 := Asd.mk (And.intro (E.out.1.below hb5) hz5)
  have z0 : w5.cell? ⟨w.heap.size,0,none⟩ = some (.int .i64 0) := cell_of hz5 0
  have z1 : w5.cell? ⟨w.heap.size,1,none⟩ = some (.int .i64 0) := cell_of hz5 1
  have z2 : w5.cell? ⟨w.heap.size,2,none⟩ = some (.string ⟨#[]⟩) := cell_of hz5 2
  have z3 : w5.cell? ⟨w.heap.size,3,none⟩ = some (.int .i64 0) := cell_of hz5 3
  have f0 : w5.frozen? ⟨w.heap.size,0,none⟩ = false := free_of hz5 0
  have f1 : w5.frozen? ⟨w.heap.size,1,none⟩ = false := free_of hz5 1
  have f2 : w5.frozen? ⟨w.heap.size,2,none⟩ = false := free_of hz5 2
  have f3 : w5.frozen? ⟨w.heap.size,3,none⟩ = false := free_of hz5 3
  clear hz5 hb5
  go_wp2_with fail
  refine tok_ret E5.out.1 E5.out.2 rfl ?_
  intro Wf hR y0 y1 y2 y3
  exact bodyPost_ret (v := .tuple #[tokV 3 0 (bytesOf T.data.toList) p,.nilIface]) (by simp [results,Tryz.results72,go_sem,y0,y1,y2,y3,tokV,bytesOf_self]) rfl ⟨rfl,hR⟩
 rcases Bool.eq_false_or_eq_true (kk == 3) with k3 | k3
 ·obtain rfl : I = .tok 3 0 T.data.toList T.size := by rw [hI2,k1,k3];rfl
  clear hI2
  go_wp2_with fail
  refine XX.out.mono ?_
  rintro e w5 ⟨rfl,hb5⟩
  have hz5 := below_blk hb5 E.out.2
  have E5 := Asd.mk (And.intro (E.out.1.below hb5) hz5)
  have z0 : w5.cell? ⟨w.heap.size,0,none⟩ = some (.int .i64 0) := cell_of hz5 0
  have z1 : w5.cell? ⟨w.heap.size,1,none⟩ = some (.int .i64 0) := cell_of hz5 1
  have z2 : w5.cell? ⟨w.heap.size,2,none⟩ = some (.string ⟨#[]⟩) := cell_of hz5 2
  have z3 : w5.cell? ⟨w.heap.size,3,none⟩ = some (.int .i64 0) := cell_of hz5 3
  have f0 : w5.frozen? ⟨w.heap.size,0,none⟩ = false := free_of hz5 0
  have f1 : w5.frozen? ⟨w.heap.size,1,none⟩ = false := free_of hz5 1
  have f2 : w5.frozen? ⟨w.heap.size,2,none⟩ = false := free_of hz5 2
  have f3 : w5.frozen? ⟨w.heap.size,3,none⟩ = false := free_of hz5 3
  clear hz5 hb5
  go_wp2_with fail
  refine tok_ret E5.out.1 E5.out.2 rfl ?_
  intro Wf hR y0 y1 y2 y3
  exact bodyPost_ret (v := .tuple #[tokV 3 0 (bytesOf T.data.toList) p,.nilIface]) (by simp [results,Tryz.results72,go_sem,y0,y1,y2,y3,tokV,bytesOf_self]) rfl ⟨rfl,hR⟩
 rcases Bool.eq_false_or_eq_true (kk == 2) with k2 | k2
 ·obtain rfl : I = .tok 4 0 T.data.toList T.size := by rw [hI2,k1,k3,k2];rfl
  clear hI2
  go_wp2_with fail
  refine XX.out.mono ?_
  rintro e w5 ⟨rfl,hb5⟩
  have hz5 := below_blk hb5 E.out.2
  have E5 := Asd.mk (And.intro (E.out.1.below hb5) hz5)
  have z0 : w5.cell? ⟨w.heap.size,0,none⟩ = some (.int .i64 0) := cell_of hz5 0
  have z1 : w5.cell? ⟨w.heap.size,1,none⟩ = some (.int .i64 0) := cell_of hz5 1
  have z2 : w5.cell? ⟨w.heap.size,2,none⟩ = some (.string ⟨#[]⟩) := cell_of hz5 2
  have z3 : w5.cell? ⟨w.heap.size,3,none⟩ = some (.int .i64 0) := cell_of hz5 3
  have f0 : w5.frozen? ⟨w.heap.size,0,none⟩ = false := free_of hz5 0
  have f1 : w5.frozen? ⟨w.heap.size,1,none⟩ = false := free_of hz5 1
  have f2 : w5.frozen? ⟨w.heap.size,2,none⟩ = false := free_of hz5 2
  have f3 : w5.frozen? ⟨w.heap.size,3,none⟩ = false := free_of hz5 3
  clear hz5 hb5
  go_wp2_with fail
  refine tok_ret E5.out.1 E5.out.2 rfl ?_
  intro Wf hR y0 y1 y2 y3
  exact bodyPost_ret (v := .tuple #[tokV 4 0 (bytesOf T.data.toList) p,.nilIface]) (by simp [results,Tryz.results72,go_sem,y0,y1,y2,y3,tokV,bytesOf_self]) rfl ⟨rfl,hR⟩
 rcases Bool.eq_false_or_eq_true (kk == 4) with k4 | k4
 ·obtain rfl : I = .tok 4 0 T.data.toList T.size := by rw [hI2,k1,k3,k2,k4];rfl
  clear hI2
  go_wp2_with fail
  refine XX.out.mono ?_
  rintro e w5 ⟨rfl,hb5⟩
  have hz5 := below_blk hb5 E.out.2
  have E5 := Asd.mk (And.intro (E.out.1.below hb5) hz5)
  have z0 : w5.cell? ⟨w.heap.size,0,none⟩ = some (.int .i64 0) := cell_of hz5 0
  have z1 : w5.cell? ⟨w.heap.size,1,none⟩ = some (.int .i64 0) := cell_of hz5 1
  have z2 : w5.cell? ⟨w.heap.size,2,none⟩ = some (.string ⟨#[]⟩) := cell_of hz5 2
  have z3 : w5.cell? ⟨w.heap.size,3,none⟩ = some (.int .i64 0) := cell_of hz5 3
  have f0 : w5.frozen? ⟨w.heap.size,0,none⟩ = false := free_of hz5 0
  have f1 : w5.frozen? ⟨w.heap.size,1,none⟩ = false := free_of hz5 1
  have f2 : w5.frozen? ⟨w.heap.size,2,none⟩ = false := free_of hz5 2
  have f3 : w5.frozen? ⟨w.heap.size,3,none⟩ = false := free_of hz5 3
  clear hz5 hb5
  go_wp2_with fail
  refine tok_ret E5.out.1 E5.out.2 rfl ?_
  intro Wf hR y0 y1 y2 y3
  exact bodyPost_ret (v := .tuple #[tokV 4 0 (bytesOf T.data.toList) p,.nilIface]) (by simp [results,Tryz.results72,go_sem,y0,y1,y2,y3,tokV,bytesOf_self]) rfl ⟨rfl,hR⟩
 ·obtain rfl : I = .bad 2 0 := by rw [hI2,k1,k3,k2,k4];rfl
  clear hI2
  go_wp2_with fail
  refine XX.out.mono ?_
  rintro e w5 ⟨rfl,hb5⟩
  go_wp2_with fail
  refine (failed_any 2 p _ rfl).mono ?_
  rintro e w6 ⟨rfl,hb6⟩
  have hz6 := below_blk hb6 (below_blk hb5 E.out.2)
  have E6 := Asd.mk (And.intro (Rd.below (E.out.1.below hb5) hb6) hz6)
  have z0 : w6.cell? ⟨w.heap.size,0,none⟩ = some (.int .i64 0) := cell_of hz6 0
  have z1 : w6.cell? ⟨w.heap.size,1,none⟩ = some (.int .i64 0) := cell_of hz6 1
  have z2 : w6.cell? ⟨w.heap.size,2,none⟩ = some (.string ⟨#[]⟩) := cell_of hz6 2
  have z3 : w6.cell? ⟨w.heap.size,3,none⟩ = some (.int .i64 0) := cell_of hz6 3
  have f0 : w6.frozen? ⟨w.heap.size,0,none⟩ = false := free_of hz6 0
  have f1 : w6.frozen? ⟨w.heap.size,1,none⟩ = false := free_of hz6 1
  have f2 : w6.frozen? ⟨w.heap.size,2,none⟩ = false := free_of hz6 2
  have f3 : w6.frozen? ⟨w.heap.size,3,none⟩ = false := free_of hz6 3
  clear hz6 hb6
  unfold noTok errV
  go_wp2_with fail
  refine tok_ret E6.out.1 E6.out.2 rfl ?_
  intro Wf hR y0 y1 y2 y3
  exact bodyPost_ret (v := .tuple #[noTok,errV 2 ((p : Int) + ((0 : Nat) : Int))]) (by simp [results,Tryz.results72,go_sem,y0,y1,y2,y3,noTok,errV]) rfl ⟨rfl,_,hR⟩
end Go.Proofs.YtkoabcncdjmoeaaGreatDoor

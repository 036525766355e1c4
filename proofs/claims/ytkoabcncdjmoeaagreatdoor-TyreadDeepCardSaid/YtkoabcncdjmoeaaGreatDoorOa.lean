/- Parts of the proof: LR1, LR2, LR5. -/
import Derived.Test.YtkoabcncdjmoeaaGreatDoorMr
import Derived.Test.YtkoabcncdjmoeaaGreatDoorMo
set_option linter.unusedSimpArgs false
set_option linter.unusedVariables false
set_option maxRecDepth 1000000
set_option maxHeartbeats 40000000
namespace Go.Proofs.YtkoabcncdjmoeaaGreatDoor
open Go.RowKit
def gotV (k n : Int) (t : ByteArray) (a : Int) (sk : Bool) (to e at' : Int) : Value :=
 .agg #[.int .i64 k,.int .i64 n,.string t,.int .i64 a,.bool sk,.int .i64 to,.int .i64 e,.int .i64 at']
def gotOf : It -> Nat -> Value
 | .tok k n t wd,p => gotV k n (bytesOf t) p false ((p : Int) + wd) 0 0
 | .bad c o,p => gotV 0 0 ⟨#[]⟩ 0 false 0 c ((p : Int) + o)
def zeroGot : Array Value := #[.int .i64 0,.int .i64 0,.string ⟨#[]⟩,.int .i64 0,.bool false,.int .i64 0,.int .i64 0,.int .i64 0]
theorem got_stored {w : World} {r : Nat} {cs : Array Value} {t : TypeId} (hz : w.heap[r]? = some (.cells cs t (0,0))) (hc : cs.size = 8) (v0 v1 v2 v3 v4 v5 v6 v7 : Value) :
  ((((((((w.setCell ⟨r,0,none⟩ v0).setCell ⟨r,1,none⟩ v1).setCell ⟨r,2,none⟩ v2).setCell ⟨r,3,none⟩ v3).setCell ⟨r,4,none⟩ v4).setCell ⟨r,5,none⟩ v5).setCell ⟨r,6,none⟩ v6).setCell ⟨r,7,none⟩ v7).heap[r]? = some (.cells #[v0,v1,v2,v3,v4,v5,v6,v7] t (0,0)) := by
 match cs,hc with
 | ⟨[a,b,c,d,e,f,g,h]⟩,_ => simp [World.setCell,Array.getElem?_modify,hz]
theorem got_ret {P : Program} {f : Func} {Q : Ending -> World -> Prop} {a : Act} {w w5 : World} {cs : Array Value} {t : TypeId} {v0 v1 v2 v3 v4 v5 v6 v7 : Value}
  (h : Below w.heap.size w w5) (hz : w5.heap[w.heap.size]? = some (.cells cs t (0,0))) (hc : cs.size = 8)
  (hQ : ∀ W,Below w.heap.size w W -> W.cell? ⟨w.heap.size,0,none⟩ = some v0 -> W.cell? ⟨w.heap.size,1,none⟩ = some v1 -> W.cell? ⟨w.heap.size,2,none⟩ = some v2 -> W.cell? ⟨w.heap.size,3,none⟩ = some v3 ->
   W.cell? ⟨w.heap.size,4,none⟩ = some v4 -> W.cell? ⟨w.heap.size,5,none⟩ = some v5 -> W.cell? ⟨w.heap.size,6,none⟩ = some v6 -> W.cell? ⟨w.heap.size,7,none⟩ = some v7 -> bodyPost P f Q Exit.ret a W) :
  bodyPost P f Q Exit.ret a ((((((((w5.setCell ⟨w.heap.size,0,none⟩ v0).setCell ⟨w.heap.size,1,none⟩ v1).setCell ⟨w.heap.size,2,none⟩ v2).setCell ⟨w.heap.size,3,none⟩ v3).setCell ⟨w.heap.size,4,none⟩ v4).setCell ⟨w.heap.size,5,none⟩ v5).setCell ⟨w.heap.size,6,none⟩ v6).setCell ⟨w.heap.size,7,none⟩ v7) := by
 have hs := got_stored hz hc v0 v1 v2 v3 v4 v5 v6 v7
 refine hQ _ ((((((((h.setCell (Nat.le_refl _) v0).setCell (Nat.le_refl _) v1).setCell (Nat.le_refl _) v2).setCell (Nat.le_refl _) v3).setCell (Nat.le_refl _) v4).setCell (Nat.le_refl _) v5).setCell (Nat.le_refl _) v6).setCell (Nat.le_refl _) v7) (cell_of hs 0) (cell_of hs 1) (cell_of hs 2) (cell_of hs 3) (cell_of hs 4) (cell_of hs 5) (cell_of hs 6) (cell_of hs 7)
structure G8 (w w5 : World) : Prop where
 below : Below w.heap.size w w5
 blk : w5.heap[w.heap.size]? = some (.cells zeroGot 82 (0,0))
theorem G8.start (w W : World) (hW : W = w.alloc (.cells #[.int .i64 0,.int .i64 0,.string ⟨#[]⟩,.int .i64 0,.bool false,.int .i64 0,.int .i64 0,.int .i64 0] 82)) : G8 w W := by
 subst hW
 exact ⟨(Below.refl _ _).alloc (Nat.le_refl _) _,alloc_blk _ _⟩
theorem G8.step {w w5 w6 : World} (h : G8 w w5) (hb : Below w5.heap.size w5 w6) : G8 w w6 := ⟨h.below.trans (hb.mono h.below.size),below_blk hb h.blk⟩
theorem rbad_any (e a : Int) (w : World) : Calls Tryz.prog 91 #[.int .i64 e,.int .i64 a] w fun v w' => v = .returned (gotV 0 0 ⟨#[]⟩ 0 false 0 e a) ∧ Below w.heap.size w w' := by
 go_enter Tryz.func91,Tryz.ntmps91
 go_wp2_with fail
 exact bodyPost_ret (v := gotV 0 0 ⟨#[]⟩ 0 false 0 e a) (by simp [results,Tryz.results91,go_sem,gotV]) rfl ⟨rfl,(Below.refl _ _).alloc (Nat.le_refl _) _⟩
theorem rletter_any (c : Int) (w : World) : Calls Tryz.prog 62 #[.int .u8 c] w fun e w' => e = .returned (.bool (alnB c)) ∧ w = w' := by
 go_enter Tryz.func62,Tryz.ntmps62
 go_wp2_with (first | (go_at_call 83;refine (rlow_any _ _).mono ?_;rintro e w' ⟨rfl,rfl⟩) | (go_at_call 84;refine (rup_any _ _).mono ?_;rintro e w' ⟨rfl,rfl⟩) | (go_at_call 60;refine (rdigit_any _ _).mono ?_;rintro e w' ⟨rfl,rfl⟩))
 all_goals go_ret
 all_goals exact ⟨ret_bool (by simp_all [alnB,letB]),rfl⟩
theorem rhex_any (c : Int) (w : World) (h0 : 0 ≤ c) (h1 : c ≤ 255) : Calls Tryz.prog 118 #[.int .u8 c] w fun e w' => e = .returned (.int .i64 (dgtI 16 c)) ∧ w = w' := by
 unfold dgtI
 rcases Bool.eq_false_or_eq_true (digB c) with hd | hd
 ·have hd2 : 48 ≤ c ∧ c ≤ 57 := by simpa [digB] using hd
  obtain ⟨d1,d2⟩ := hd2
  rw [hd,if_pos rfl,if_pos (by omega)]
  go_enter Tryz.func118,Tryz.ntmps118
  go_wp2_with fail
  go_ret
  exact ⟨rfl,rfl⟩
 ·have hd2 : ¬ (48 ≤ c ∧ c ≤ 57) := by simpa [digB] using hd
  rw [hd,if_neg (by simp)]
  by_cases h97 : 97 ≤ c
  ·by_cases h102 : c ≤ 102
   ·have hl : lowB c = true := by simp [lowB];omega
    have hn : ¬ c ≤ 57 := by omega
    rw [hl,if_pos rfl,if_pos (by omega)]
    clear hl hd hd2
    go_enter Tryz.func118,Tryz.ntmps118
    go_wp2_with fail
    go_ret
    exact ⟨rfl,rfl⟩
   ·have hn : ¬ c ≤ 57 := by omega
    have hr : (if lowB c = true then (if c - 97 + 10 < 16 then c - 97 + 10 else -1) else -1) = (-1 : Int) := by
     split
     ·rw [if_neg (by omega)]
     ·rfl
    rw [hr]
    clear hr hd hd2
    go_enter Tryz.func118,Tryz.ntmps118
    go_wp2_with fail
    go_ret
    exact ⟨rfl,rfl⟩
  ·have hl : lowB c = false := by simp [lowB];omega
   rw [hl,if_neg (by simp)]
   clear hl hd
   by_cases h48 : 48 ≤ c
   ·have h57 : ¬ c ≤ 57 := by omega
    clear hd2
    go_enter Tryz.func118,Tryz.ntmps118
    go_wp2_with fail
    go_ret
    exact ⟨rfl,rfl⟩
   ·clear hd2
    go_enter Tryz.func118,Tryz.ntmps118
    go_wp2_with fail
    go_ret
    exact ⟨rfl,rfl⟩
theorem valF16_two (a b : UInt8) : valF 16 [a,b] 0 = if dgtI 16 (a.toNat : Int) < 0 then (0,false) else if dgtI 16 (b.toNat : Int) < 0 then (0,false) else (dgtI 16 (a.toNat : Int) * 16 + dgtI 16 (b.toNat : Int),true) := by
 have ha := dgt_range 16 (a.toNat : Int) (by omega)
 have hb := dgt_range 16 (b.toNat : Int) (by omega)
 generalize hda : dgtI 16 (a.toNat : Int) = da at ha ⊢
 generalize hdb : dgtI 16 (b.toNat : Int) = db at hb ⊢
 simp only [valF,hda,hdb]
 by_cases h1 : da < 0
 ·rw [if_pos h1,if_pos (by simp [h1])]
 ·rw [if_neg h1,if_neg (by simp only [Bool.or_eq_true,decide_eq_true_eq,not_or];omega)]
  by_cases h2 : db < 0
  ·rw [if_pos h2,if_pos (by simp [h2])]
  ·rw [if_neg h2,if_neg (by simp only [Bool.or_eq_true,decide_eq_true_eq,not_or];omega)]
   congr 1
   omega
theorem rest_bI (s : ByteArray) (p j : Nat) (h : p + j < s.size) : bI (rest s p) j = (s[p + j].toNat : Int) := by
 unfold bI rest
 rw [List.getD_eq_getElem?_getD,List.getElem?_drop,byte_at s (p + j) h]
 try rfl
theorem rest_two (s : ByteArray) (p : Nat) (h : p + 3 < s.size) : ((rest s p).drop 2).take 2 = [s[p + 2],s[p + 3]] := by
 rw [rest_drop,rest_lt s (p + 2) (by omega),rest_lt s (p + 2 + 1) (by omega)]
 try rfl
theorem rhexQ (c : Int) (h0 : 0 ≤ c) (h1 : c ≤ 255) (w : World) : Calls Tryz.prog 118 #[.int .u8 c] w fun e w' => e = .returned (.int .i64 (dgtI 16 c)) ∧ w' = w :=
 (rhex_any c w h0 h1).mono fun _ _ hh => ⟨hh.1,hh.2.symm⟩
theorem rescape_any (s : ByteArray) (p : Nat) (w : World) (hs : s.size ≤ 65536) (hp : p < s.size) :
  Calls Tryz.prog 92 #[.string s,.int .i64 p] w fun e w' => e = .returned (.tuple #[.int .u8 (escE (rest s p)).1,.int .i64 (escE (rest s p)).2]) ∧ Below w.heap.size w w' := by
 generalize hR : escE (rest s p) = R
 unfold escE at hR
 rw [rest_len] at hR
 by_cases h2 : s.size ≤ p + 1
 ·obtain rfl : R = (0,0) := by rw [← hR,if_pos (by omega)]
  clear hR
  go_enter Tryz.func92,Tryz.ntmps92
  go_wp2_with fail
  go_ret2
  exact ⟨rfl,Below.refl _ _⟩
 rw [if_neg (by omega),rest_bI s p 1 (by omega)] at hR
 have hp1 : p + 1 < s.size := by omega
 have hb1 := byte_le s[p + 1]
 rcases Bool.eq_false_or_eq_true ((s[p + 1].toNat : Int) == 34) with h34 | h34
 ·have he : (s[p + 1].toNat : Int) = 34 := by simpa using h34
  obtain rfl : R = ((s[p + 1].toNat : Int),2) := by rw [← hR,h34,he];rfl
  clear hR he
  go_enter Tryz.func92,Tryz.ntmps92
  go_wp2_with fail
  go_ret2
  exact ⟨rfl,Below.refl _ _⟩
 rcases Bool.eq_false_or_eq_true ((s[p + 1].toNat : Int) == 92) with h92 | h92
 ·have he : (s[p + 1].toNat : Int) = 92 := by simpa using h92
  obtain rfl : R = ((s[p + 1].toNat : Int),2) := by rw [← hR,h34,h92,he];rfl
  clear hR he
  go_enter Tryz.func92,Tryz.ntmps92
  go_wp2_with fail
  go_ret2
  exact ⟨rfl,Below.refl _ _⟩
 rcases Bool.eq_false_or_eq_true ((s[p + 1].toNat : Int) == 110) with h110 | h110
 ·obtain rfl : R = (10,2) := by rw [← hR,h34,h92,h110];rfl
  clear hR
  go_enter Tryz.func92,Tryz.ntmps92
  go_wp2_with fail
  go_ret2
  exact ⟨rfl,Below.refl _ _⟩
 rcases Bool.eq_false_or_eq_true ((s[p + 1].toNat : Int) == 120) with h120 | h120
 ·have hR2 : R = hexE (rest s p) := by rw [← hR,h34,h92,h110,h120];rfl
  clear hR
  unfold hexE at hR2
  rw [rest_len] at hR2
  by_cases h3 : p + 3 < s.size
  ·rw [if_neg (by omega),rest_two s p h3,valF16_two] at hR2
   have hp2 : p + 2 < s.size := by omega
   have k2 := byte_le s[p + 2]
   have k3 := byte_le s[p + 3]
   have d2 := dgt_range 16 (s[p + 2].toNat : Int) (by omega)
   have d3 := dgt_range 16 (s[p + 3].toNat : Int) (by omega)
   have X2 := Asd.mk (rhexQ (s[p + 2].toNat : Int) k2.1 k2.2)
   have X3 := Asd.mk (rhexQ (s[p + 3].toNat : Int) k3.1 k3.2)
   generalize dgtI 16 (s[p + 2].toNat : Int) = e2 at hR2 d2 X2
   generalize dgtI 16 (s[p + 3].toNat : Int) = e3 at hR2 d3 X3
   clear k2 k3
   by_cases g2 : e2 < 0
   ·obtain rfl : R = (0,0) := by rw [hR2,if_pos g2];rfl
    clear hR2
    go_enter Tryz.func92,Tryz.ntmps92
    go_wp2_with fail
    refine (X2.out _).mono ?_
    rintro e w' ⟨rfl,rfl⟩
    go_wp2_with fail
    go_ret2
    exact ⟨rfl,Below.refl _ _⟩
   by_cases g3 : e3 < 0
   ·obtain rfl : R = (0,0) := by rw [hR2,if_neg g2,if_pos g3];rfl
    clear hR2
    go_enter Tryz.func92,Tryz.ntmps92
    go_wp2_with fail
    refine (X2.out _).mono ?_
    rintro e w' ⟨rfl,rfl⟩
    go_wp2_with fail
    refine (X3.out _).mono ?_
    rintro e w'' ⟨rfl,rfl⟩
    go_wp2_with fail
    go_ret2
    exact ⟨rfl,Below.refl _ _⟩
   ·obtain rfl : R = (e2 * 16 + e3,4) := by rw [hR2,if_neg g2,if_neg g3];rfl
    clear hR2
    have hw1 : IntKind.i64.wrap (e2 * 16) = e2 * 16 := by rw [IntKind.wrap_i64];omega
    go_enter Tryz.func92,Tryz.ntmps92
    go_wp2_with fail
    refine (X2.out _).mono ?_
    rintro e w' ⟨rfl,rfl⟩
    go_wp2_with fail
    refine (X3.out _).mono ?_
    rintro e w'' ⟨rfl,rfl⟩
    go_wp2_with fail
    go_quiet ((go_at_call 118;first | with_reducible exact Calls.quiet_of_same (X2.out _) | with_reducible exact Calls.quiet_of_same (X3.out _)))
    go_wp2_with fail
    go_ret2
    exact ⟨rfl,⟨rfl,rfl,rfl,Nat.le_refl _,fun _ _ => rfl⟩⟩
  ·obtain rfl : R = (0,0) := by rw [hR2,if_pos (by omega)]
   have h3i : ¬ ((p : Int) + 3 < (s.size : Int)) := by omega
   clear hR2
   go_enter Tryz.func92,Tryz.ntmps92
   go_wp2_with fail
   go_ret2
   exact ⟨rfl,Below.refl _ _⟩
 ·obtain rfl : R = (0,0) := by rw [← hR,h34,h92,h110,h120];rfl
  clear hR
  go_enter Tryz.func92,Tryz.ntmps92
  go_wp2_with fail
  go_ret2
  exact ⟨rfl,Below.refl _ _⟩
def twoL (j : Nat) : List UInt8 := ([[61,62],[45,62],[60,58],[43,43],[61,61]] : List (List UInt8)).getD j []
def oneL : ByteArray := { data := #[40,41,123,125,91,93,44,58,46,61,63,43,45,42,47,60] }
theorem twoB_iff (l : List UInt8) : twoB l = true ↔ ∃ j,j < 5 ∧ (l.take 2 == twoL j) = true := by
 unfold twoB
 constructor
 ·intro h
  simp only [Bool.or_eq_true] at h
  rcases h with h | h | h | h | h
  ·exact ⟨0,by omega,h⟩
  ·exact ⟨1,by omega,h⟩
  ·exact ⟨2,by omega,h⟩
  ·exact ⟨3,by omega,h⟩
  ·exact ⟨4,by omega,h⟩
 ·rintro ⟨j,hj,h⟩
  have : j = 0 ∨ j = 1 ∨ j = 2 ∨ j = 3 ∨ j = 4 := by omega
  rcases this with rfl | rfl | rfl | rfl | rfl
  all_goals
   have h' := h
   simp only [twoL,List.getD_cons_zero,List.getD_cons_succ] at h'
   simp [h']
theorem oneB_iff (c : Int) : oneB c = true ↔ ∃ j,∃ h : j < 16,(c == ((oneL[j]'h).toNat : Int)) = true := by
 constructor
 ·intro h
  unfold oneB at h
  simp only [Bool.or_eq_true,beq_iff_eq] at h
  rcases h with h | h | h | h | h | h | h | h | h | h | h | h | h | h | h | h
  all_goals subst h
  ·exact ⟨0,by omega,by decide⟩
  ·exact ⟨1,by omega,by decide⟩
  ·exact ⟨2,by omega,by decide⟩
  ·exact ⟨3,by omega,by decide⟩
  ·exact ⟨4,by omega,by decide⟩
  ·exact ⟨5,by omega,by decide⟩
  ·exact ⟨6,by omega,by decide⟩
  ·exact ⟨7,by omega,by decide⟩
  ·exact ⟨8,by omega,by decide⟩
  ·exact ⟨9,by omega,by decide⟩
  ·exact ⟨10,by omega,by decide⟩
  ·exact ⟨11,by omega,by decide⟩
  ·exact ⟨12,by omega,by decide⟩
  ·exact ⟨13,by omega,by decide⟩
  ·exact ⟨14,by omega,by decide⟩
  ·exact ⟨15,by omega,by decide⟩
 ·rintro ⟨j,hj,h⟩
  have hc : c = ((oneL[j]'hj).toNat : Int) := by simpa using h
  rw [hc]
  have hall : ∀ m : Fin 16,oneB ((oneL[m.val]'m.isLt).toNat : Int) = true := by decide
  exact hall ⟨j,hj⟩
theorem sign_tok {l : List UInt8} {n : Nat} (h : sgnW l = (n : Int)) (hn : 1 ≤ n) : signI l = .tok 5 0 (l.take n) n := by
 unfold signI
 rw [h,if_neg (by simp only [beq_iff_eq];omega),Int.toNat_natCast]
theorem ext2_list (s : ByteArray) (p : Nat) : (s.extract p (p + 2)).toList = (rest s p).take 2 := by
 rw [ByteArray.toList_eq,ext_eq];rfl
theorem below_drewN {B : Nat} {a w : World} (h : Below B a w) (n : Nat) : Below B a (w.drewN n) := ⟨h.os,h.tape,h.output,h.size,h.block⟩
theorem conv_one (b : UInt8) (w : World) : (convert 97 9 (.slice (some ⟨w.heap.size,0,none⟩) 1 1)).run Tryz.prog (w.alloc (.cells #[.int .u8 (b.toNat : Int)] 5)) = .ok (.string (bytesOf [b])) (w.alloc (.cells #[.int .u8 (b.toNat : Int)] 5)) := by
 refine run_convert_bytes_back (w.alloc (.cells #[.int .u8 (b.toNat : Int)] 5)) 97 9 5 ⟨w.heap.size,0,none⟩ 1 [b] Tryz.underlying97 Tryz.underlying5 Tryz.underlying9 fun j hj => ?_
 have : j = 0 := by simpa using hj
 subst this
 exact cellNew _ _ _ 0 _ rfl
theorem sign_conv {o : Oper} {a : Act} {K : Act -> World -> Prop} {Q : Exit -> Act -> World -> Prop} {g : Value -> World -> Result Next} {w W : World} {b : UInt8} (hG : G8 w W)
  (hK : ∀ X,G8 w X -> Oper.upon Tryz.prog o a K Q ((Result.ok (.string (bytesOf [b])) X).andThen g)) :
  Oper.upon Tryz.prog o a K Q (((convert 97 9 (.slice (some ⟨W.heap.size,0,none⟩) 1 1)).run Tryz.prog (W.alloc (.cells #[.int .u8 (b.toNat : Int)] 5))).andThen g) := by
 rw [conv_one]
 exact hK _ (hG.step ((Below.refl _ _).alloc (Nat.le_refl _) _))
theorem sign_start (w W : World) (hW : W = (w.alloc (.cells #[.int .i64 0,.int .i64 0,.string ⟨#[]⟩,.int .i64 0,.bool false,.int .i64 0,.int .i64 0,.int .i64 0] 82)).alloc (.cells #[.string ⟨#[61,62]⟩,.string ⟨#[45,62]⟩,.string ⟨#[60,58]⟩,.string ⟨#[43,43]⟩,.string ⟨#[61,61]⟩] 9)) : G8 w W ∧ ∀ j,j < 5 -> W.cell? ⟨w.heap.size + 1,j,none⟩ = some (.string (bytesOf (twoL j))) := by
 subst hW
 refine ⟨(G8.start w _ rfl).step ((Below.refl _ _).alloc (Nat.le_refl _) _),fun j hj => ?_⟩
 have h := cellNew (w.alloc (.cells #[.int .i64 0,.int .i64 0,.string ⟨#[]⟩,.int .i64 0,.bool false,.int .i64 0,.int .i64 0,.int .i64 0] 82)) #[.string ⟨#[61,62]⟩,.string ⟨#[45,62]⟩,.string ⟨#[60,58]⟩,.string ⟨#[43,43]⟩,.string ⟨#[61,61]⟩] 9 j (.string (bytesOf (twoL j))) (by
  have : j = 0 ∨ j = 1 ∨ j = 2 ∨ j = 3 ∨ j = 4 := by omega
  rcases this with rfl | rfl | rfl | rfl | rfl <;> rfl)
 simpa using h
theorem rsign_any (s : ByteArray) (p : Nat) (w : World) (hs : s.size ≤ 65536) (hp : p < s.size) :
  Calls Tryz.prog 65 #[.string s,.int .i64 p] w fun e w' => e = .returned (gotOf (signI (rest s p)) p) ∧ Below w.heap.size w w' := by
 generalize hI : signI (rest s p) = I
 have HI := Asd.mk hI
 clear hI
 have F := Asd.mk (sign_start w _ rfl)
 go_enter Tryz.func65,Tryz.ntmps65
 go_wp2_with fail
 generalize ((w.alloc (.cells #[.int .i64 0,.int .i64 0,.string ⟨#[]⟩,.int .i64 0,.bool false,.int .i64 0,.int .i64 0,.int .i64 0] 82)).alloc (.cells #[.string ⟨#[61,62]⟩,.string ⟨#[45,62]⟩,.string ⟨#[60,58]⟩,.string ⟨#[43,43]⟩,.string ⟨#[61,61]⟩] 9)) = W at F ⊢
 go_loopw [6] (fun v6 wr => ∃ k : Nat,v6 = .int .i64 k ∧ k ≤ 5 ∧ Below W.heap.size W wr ∧ ∀ j,j < k -> p + 2 ≤ s.size -> ((rest s p).take 2 == twoL j) = false) (fun v6 _ => 5 - (intOf v6).toNat)
 case atStart => exact ⟨0,rfl,by omega,Below.refl _ _,fun j hj => by omega⟩
 case round =>
  obtain ⟨k,rfl,hk,hbw,hno⟩ := hrel
  have A := Asd.mk (And.intro hbw hno)
  have G := Asd.mk (F.out.1.step hbw)
  clear hbw hno
  by_cases hk5 : k < 5
  ·by_cases h2 : p + 2 ≤ s.size
   ·have h2i : (p : Int) + 2 ≤ (s.size : Int) := by omega
    have hd2 : decide ((p : Int) + 2 ≤ (s.size : Int)) = true := by simpa using h2i
    have hpi : (p : Int) ≤ (p : Int) + 2 := by omega
    have hcell := below_cellAt A.out.1 (F.out.2 k hk5)
    have T1 := Asd.mk (ext2_list s p)
    rcases Bool.eq_false_or_eq_true ((s.extract p (p + 2)).toList == (bytesOf (twoL k)).toList) with hq | hq
    ·have HX := Asd.mk hq
     have hsg : sgnW (rest s p) = ((2 : Nat) : Int) := by
      unfold sgnW
      rw [if_pos]
      ·rfl
      ·rw [Bool.and_eq_true]
       refine ⟨by rw [rest_len];simp;omega,(twoB_iff _).2 ⟨k,hk5,?_⟩⟩
       rw [← T1.out]
       have := HX.out
       rw [ByteArray.toList_eq (bs := bytesOf (twoL k))] at this
       exact this
     obtain rfl : I = .tok 5 0 ((rest s p).take 2) 2 := by rw [← HI.out];exact sign_tok hsg (by omega)
     have ht : twoL k = (rest s p).take 2 := by
      have := HX.out
      rw [ByteArray.toList_eq (bs := bytesOf (twoL k)),T1.out] at this
      exact (by simpa using this : (rest s p).take 2 = (bytesOf (twoL k)).data.toList).symm
     have HT := Asd.mk ht
     clear ht hsg
     go_wp2_with fail
     go_quiet (fail)
     obtain ⟨w5,hw5⟩ : ∃ w5,w5 = wr.drewN nq := ⟨_,rfl⟩
     rw [← hw5]
     have G5 : Asd (G8 w w5) := ⟨by rw [hw5];exact ⟨below_drewN G.out.below _,G.out.blk⟩⟩
     have hc5 : w5.cell? ⟨w.heap.size + 1,k,none⟩ = some (.string (bytesOf (twoL k))) := by rw [hw5];exact hcell
     clear hw5 hcell
     have hz5 := G5.out.blk
     have z0 : w5.cell? ⟨w.heap.size,0,none⟩ = some (.int .i64 0) := cell_of hz5 0
     have z1 : w5.cell? ⟨w.heap.size,1,none⟩ = some (.int .i64 0) := cell_of hz5 1
     have z2 : w5.cell? ⟨w.heap.size,2,none⟩ = some (.string ⟨#[]⟩) := cell_of hz5 2
     have z3 : w5.cell? ⟨w.heap.size,3,none⟩ = some (.int .i64 0) := cell_of hz5 3
     have z4 : w5.cell? ⟨w.heap.size,4,none⟩ = some (.bool false) := cell_of hz5 4
     have z5 : w5.cell? ⟨w.heap.size,5,none⟩ = some (.int .i64 0) := cell_of hz5 5
     have z6 : w5.cell? ⟨w.heap.size,6,none⟩ = some (.int .i64 0) := cell_of hz5 6
     have z7 : w5.cell? ⟨w.heap.size,7,none⟩ = some (.int .i64 0) := cell_of hz5 7
     have f0 : w5.frozen? ⟨w.heap.size,0,none⟩ = false := free_of hz5 0
     have f1 : w5.frozen? ⟨w.heap.size,1,none⟩ = false := free_of hz5 1
     have f2 : w5.frozen? ⟨w.heap.size,2,none⟩ = false := free_of hz5 2
     have f3 : w5.frozen? ⟨w.heap.size,3,none⟩ = false := free_of hz5 3
     have f4 : w5.frozen? ⟨w.heap.size,4,none⟩ = false := free_of hz5 4
     have f5 : w5.frozen? ⟨w.heap.size,5,none⟩ = false := free_of hz5 5
     have f6 : w5.frozen? ⟨w.heap.size,6,none⟩ = false := free_of hz5 6
     have f7 : w5.frozen? ⟨w.heap.size,7,none⟩ = false := free_of hz5 7
     clear hz5
     go_wp2_with fail
     refine got_ret G5.out.below G5.out.blk rfl ?_
     intro Wf hR y0 y1 y2 y3 y4 y5 y6 y7
     exact bodyPost_ret (v := gotV 5 0 (bytesOf ((rest s p).take 2)) p false ((p : Int) + ((2 : Nat) : Int)) 0 0) (by simp [results,Tryz.results65,go_sem,y0,y1,y2,y3,y4,y5,y6,y7,gotV,HT.out]) rfl ⟨rfl,hR⟩
    ·have HX := Asd.mk hq
     go_wp2_with fail
     go_quiet (fail)
     go_wp2_with fail
     go_roundw
     case rel => exact ⟨k + 1,by go_num,by omega,below_drewN A.out.1 _,fun j hj h2' => by
      by_cases hjk : j = k
      ·subst hjk
       have := HX.out
       rw [ByteArray.toList_eq (bs := bytesOf (twoL j)),T1.out] at this
       exact this
      ·exact A.out.2 j (by omega) h2'⟩
     case measure => simp [intOf];omega
   ·have hd2 : decide ((p : Int) + 2 ≤ (s.size : Int)) = false := by rw [decide_eq_false_iff_not];omega
    go_wp2_with fail
    go_quiet (fail)
    go_wp2_with fail
    go_roundw
    case rel => exact ⟨k + 1,by go_num,by omega,below_drewN A.out.1 _,fun j _ h2' => absurd h2' h2⟩
    case measure => simp [intOf];omega
  ·have hk5' : k = 5 := by omega
   have h2f : Asd ((decide (1 < (rest s p).length) && twoB (rest s p)) = false) := ⟨by
    rw [Bool.and_eq_false_iff,rest_len]
    by_cases h2 : p + 2 ≤ s.size
    ·right
     rw [Bool.eq_false_iff]
     intro hh
     obtain ⟨j,hj,hx⟩ := (twoB_iff _).1 hh
     rw [A.out.2 j (by omega) h2] at hx
     cases hx
    ·left
     rw [decide_eq_false_iff_not]
     omega⟩
   have hb0 : bI (rest s p) 0 = (s[p].toNat : Int) := rest_bI s p 0 (by omega)
   have hsg : sgnW (rest s p) = if oneB (s[p].toNat : Int) = true then 1 else 0 := by
    unfold sgnW;rw [h2f.out,if_neg (by simp),hb0]
   have HSG := Asd.mk hsg
   have HR : Asd (rest s p = s[p] :: rest s (p + 1)) := ⟨rest_lt s p hp⟩
   have BA := Asd.mk A.out.1
   clear hsg hb0 h2f A
   have HK := Asd.mk hk5'
   clear hk5'
   go_wp2_with fail
   clear hk5
   go_loopw [8] (fun v8 wq => ∃ i : Nat,v8 = .int .i64 i ∧ i ≤ 16 ∧ Below W.heap.size W wq ∧ ∀ j,j < i -> ∀ h : j < 16,((s[p].toNat : Int) == ((oneL[j]'h).toNat : Int)) = false) (fun v8 _ => 16 - (intOf v8).toNat)
   case atStart => exact ⟨0,rfl,by omega,BA.out,fun j hj => by omega⟩
   case round =>
    clear BA G
    obtain ⟨i,rfl,hi,hbw,hno⟩ := hrel
    have A := Asd.mk (And.intro hbw hno)
    have G := Asd.mk (F.out.1.step hbw)
    clear hbw hno
    by_cases hi16 : i < 16
    ·have hisz : i < ({ data := #[40,41,123,125,91,93,44,58,46,61,63,43,45,42,47,60] } : ByteArray).size := hi16
     rcases Bool.eq_false_or_eq_true ((s[p].toNat : Int) == ((({ data := #[40,41,123,125,91,93,44,58,46,61,63,43,45,42,47,60] } : ByteArray)[i]'hisz).toNat : Int)) with hq | hq
     ·have HX : Asd (((s[p].toNat : Int) == ((oneL[i]'hi16).toNat : Int)) = true) := ⟨hq⟩
      obtain rfl : I = .tok 5 0 [s[p]] 1 := by
       rw [← HI.out,sign_tok (n := 1) (by rw [HSG.out,if_pos ((oneB_iff _).2 ⟨i,hi16,HX.out⟩)];rfl) (by omega),HR.out]
       try rfl
      go_wp2_with fail
      go_quiet (fail)
      obtain ⟨w5,hw5⟩ : ∃ w5,w5 = wr.drewN nq := ⟨_,rfl⟩
      rw [← hw5]
      have G5 : Asd (G8 w w5) := ⟨by rw [hw5];exact ⟨below_drewN G.out.below _,G.out.blk⟩⟩
      clear hw5
      go_wp2_with fail
      refine sign_conv G5.out (fun X hX => ?_)
      have G6 := Asd.mk hX
      have hz6 := G6.out.blk
      have z0 : X.cell? ⟨w.heap.size,0,none⟩ = some (.int .i64 0) := cell_of hz6 0
      have z1 : X.cell? ⟨w.heap.size,1,none⟩ = some (.int .i64 0) := cell_of hz6 1
      have z2 : X.cell? ⟨w.heap.size,2,none⟩ = some (.string ⟨#[]⟩) := cell_of hz6 2
      have z3 : X.cell? ⟨w.heap.size,3,none⟩ = some (.int .i64 0) := cell_of hz6 3
      have z4 : X.cell? ⟨w.heap.size,4,none⟩ = some (.bool false) := cell_of hz6 4
      have z5 : X.cell? ⟨w.heap.size,5,none⟩ = some (.int .i64 0) := cell_of hz6 5
      have z6 : X.cell? ⟨w.heap.size,6,none⟩ = some (.int .i64 0) := cell_of hz6 6
      have z7 : X.cell? ⟨w.heap.size,7,none⟩ = some (.int .i64 0) := cell_of hz6 7
      have f0 : X.frozen? ⟨w.heap.size,0,none⟩ = false := free_of hz6 0
      have f1 : X.frozen? ⟨w.heap.size,1,none⟩ = false := free_of hz6 1
      have f2 : X.frozen? ⟨w.heap.size,2,none⟩ = false := free_of hz6 2
      have f3 : X.frozen? ⟨w.heap.size,3,none⟩ = false := free_of hz6 3
      have f4 : X.frozen? ⟨w.heap.size,4,none⟩ = false := free_of hz6 4
      have f5 : X.frozen? ⟨w.heap.size,5,none⟩ = false := free_of hz6 5
      have f6 : X.frozen? ⟨w.heap.size,6,none⟩ = false := free_of hz6 6
      have f7 : X.frozen? ⟨w.heap.size,7,none⟩ = false := free_of hz6 7
      clear hz6 hX
      go_wp2_with fail
      refine got_ret G6.out.below G6.out.blk rfl ?_
      intro Wf hR y0 y1 y2 y3 y4 y5 y6 y7
      exact bodyPost_ret (v := gotV 5 0 (bytesOf [s[p]]) p false ((p : Int) + ((1 : Nat) : Int)) 0 0) (by simp [results,Tryz.results65,go_sem,y0,y1,y2,y3,y4,y5,y6,y7,gotV]) rfl ⟨rfl,hR⟩
     ·have HX : Asd (((s[p].toNat : Int) == ((oneL[i]'hi16).toNat : Int)) = false) := ⟨hq⟩
      go_wp2_with fail
      go_quiet (fail)
      go_wp2_with fail
      go_roundw
      case rel => exact ⟨i + 1,by go_num,by omega,below_drewN A.out.1 _,fun j hj h16 => by
       by_cases hji : j = i
       ·subst hji
        exact HX.out
       ·exact A.out.2 j (by omega) h16⟩
      case measure => simp [intOf];omega
    ·obtain rfl : I = .bad 3 0 := by
      have hone : oneB (s[p].toNat : Int) = false := by
       rw [Bool.eq_false_iff]
       intro hh
       obtain ⟨j,hj,hx⟩ := (oneB_iff _).1 hh
       rw [A.out.2 j (by omega) hj] at hx
       cases hx
      rw [← HI.out]
      unfold signI
      rw [HSG.out,hone]
      try rfl
     go_wp2_with fail
     refine (rbad_any 3 p _).mono ?_
     rintro e w6 ⟨rfl,hb6⟩
     have G6 := Asd.mk (G.out.step hb6)
     have hz6 := G6.out.blk
     have z0 : w6.cell? ⟨w.heap.size,0,none⟩ = some (.int .i64 0) := cell_of hz6 0
     have z1 : w6.cell? ⟨w.heap.size,1,none⟩ = some (.int .i64 0) := cell_of hz6 1
     have z2 : w6.cell? ⟨w.heap.size,2,none⟩ = some (.string ⟨#[]⟩) := cell_of hz6 2
     have z3 : w6.cell? ⟨w.heap.size,3,none⟩ = some (.int .i64 0) := cell_of hz6 3
     have z4 : w6.cell? ⟨w.heap.size,4,none⟩ = some (.bool false) := cell_of hz6 4
     have z5 : w6.cell? ⟨w.heap.size,5,none⟩ = some (.int .i64 0) := cell_of hz6 5
     have z6 : w6.cell? ⟨w.heap.size,6,none⟩ = some (.int .i64 0) := cell_of hz6 6
     have z7 : w6.cell? ⟨w.heap.size,7,none⟩ = some (.int .i64 0) := cell_of hz6 7
     have f0 : w6.frozen? ⟨w.heap.size,0,none⟩ = false := free_of hz6 0
     have f1 : w6.frozen? ⟨w.heap.size,1,none⟩ = false := free_of hz6 1
     have f2 : w6.frozen? ⟨w.heap.size,2,none⟩ = false := free_of hz6 2
     have f3 : w6.frozen? ⟨w.heap.size,3,none⟩ = false := free_of hz6 3
     have f4 : w6.frozen? ⟨w.heap.size,4,none⟩ = false := free_of hz6 4
     have f5 : w6.frozen? ⟨w.heap.size,5,none⟩ = false := free_of hz6 5
     have f6 : w6.frozen? ⟨w.heap.size,6,none⟩ = false := free_of hz6 6
     have f7 : w6.frozen? ⟨w.heap.size,7,none⟩ = false := free_of hz6 7
     clear hz6 hb6
     unfold gotV
     go_wp2_with fail
     refine got_ret G6.out.below G6.out.blk rfl ?_
     intro Wf hR y0 y1 y2 y3 y4 y5 y6 y7
     exact bodyPost_ret (v := gotV 0 0 ⟨#[]⟩ 0 false 0 3 ((p : Int) + ((0 : Nat) : Int))) (by simp [results,Tryz.results65,go_sem,y0,y1,y2,y3,y4,y5,y6,y7,gotV]) rfl ⟨rfl,hR⟩
end Go.Proofs.YtkoabcncdjmoeaaGreatDoor

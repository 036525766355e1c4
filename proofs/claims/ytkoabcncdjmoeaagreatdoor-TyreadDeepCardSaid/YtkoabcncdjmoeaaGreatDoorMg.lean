/- Parts of the proof: LexLow, LexRd. -/
import Derived.IntWalk
import Derived.Deep.QuietTactic
import Derived.BigQuiet
import Derived.Deep.LoopGhost
import Derived.Lib.Builder
import Derived.Test.YtkoabcncdjmoeaaGreatDoorMf
import Derived.Test.YtkoabcncdjmoeaaGreatDoorMd
set_option linter.unusedSimpArgs false
set_option linter.unusedVariables false
set_option maxRecDepth 1000000
set_option maxHeartbeats 40000000
namespace Go.Proofs.YtkoabcncdjmoeaaGreatDoor
open Go.RowKit
def letB (c : Int) : Bool := lowB c || upB c
def alnB (c : Int) : Bool := letB c || digB c
def plainB (c : Int) : Bool := decide (32 ≤ c) && decide (c ≤ 126)
def dgtI (b c : Int) : Int := if digB c = true then (if c - 48 < b then c - 48 else -1) else if lowB c = true then (if c - 97 + 10 < b then c - 97 + 10 else -1) else -1
theorem ldigit_any (c : Int) (w : World) : Calls Tryz.prog 69 #[.int .u8 c] w fun e w' => e = .returned (.bool (digB c)) ∧ w = w' := by
 go_enter Tryz.func69,Tryz.ntmps69
 go_wp2
 all_goals go_ret
 all_goals exact ⟨ret_bool (by simp [digB, *] <;> omega),rfl⟩
theorem lplain_any (c : Int) (w : World) : Calls Tryz.prog 125 #[.int .u8 c] w fun e w' => e = .returned (.bool (plainB c)) ∧ w = w' := by
 go_enter Tryz.func125,Tryz.ntmps125
 go_wp2
 all_goals go_ret
 all_goals exact ⟨ret_bool (by simp [plainB, *] <;> omega),rfl⟩
theorem lletter_any (c : Int) (w : World) : Calls Tryz.prog 71 #[.int .u8 c] w fun e w' => e = .returned (.bool (letB c)) ∧ w = w' := by
 go_enter Tryz.func71,Tryz.ntmps71
 go_wp2
 all_goals go_ret
 all_goals exact ⟨ret_bool (by simp [letB,lowB,upB, *] <;> omega),rfl⟩
theorem skip1_any (c : Int) (w : World) : Calls Tryz.prog 98 #[.int .u8 c] w fun e w' => e = .returned (.bool (c != 10)) ∧ w = w' := by
 go_enter Tryz.func98,Tryz.ntmps98
 go_wp2
 all_goals go_ret
 all_goals exact ⟨ret_bool (by simp [*]),rfl⟩
theorem word1_any (c : Int) (w : World) : Calls Tryz.prog 103 #[.int .u8 c] w fun e w' => e = .returned (.bool (alnB c)) ∧ w = w' := by
 go_enter Tryz.func103,Tryz.ntmps103
 go_wp2_with (first | (go_at_call 71;refine (lletter_any _ _).mono ?_;rintro e w' ⟨rfl,rfl⟩) | (go_at_call 69;refine (ldigit_any _ _).mono ?_;rintro e w' ⟨rfl,rfl⟩))
 all_goals go_ret
 all_goals exact ⟨ret_bool (by simp_all [alnB]),rfl⟩
theorem digits1_any (b c : Int) (k : Nat) (w : World) (h0 : 0 ≤ c) (h1 : c ≤ 255) (h : w.cell? ⟨k,0,none⟩ = some (.int .i64 b)) :
  Calls Tryz.prog 122 #[.int .u8 c,.pointer (some ⟨k,0,none⟩)] w fun e w' => e = .returned (.int .i64 (dgtI b c)) ∧ w = w' := by
 unfold dgtI
 rcases Bool.eq_false_or_eq_true (digB c) with hd | hd
 ·have hd2 : 48 ≤ c ∧ c ≤ 57 := by simpa [digB] using hd
  obtain ⟨d1,d2⟩ := hd2
  by_cases hb : c - 48 < b
  all_goals
   simp only [hd,hb,if_true,if_false]
   go_enter Tryz.func122,Tryz.ntmps122
   go_wp2_with (go_at_call 69;refine (ldigit_any _ _).mono ?_;rintro e w' ⟨rfl,rfl⟩)
   go_ret
   exact ⟨rfl,rfl⟩
 ·rcases Bool.eq_false_or_eq_true (lowB c) with hl | hl
  ·have hl2 : 97 ≤ c ∧ c ≤ 122 := by simpa [lowB] using hl
   obtain ⟨d1,d2⟩ := hl2
   by_cases hb : c - 97 + 10 < b
   all_goals
    simp only [hd,hl,hb,if_true,if_false,Bool.false_eq_true]
    go_enter Tryz.func122,Tryz.ntmps122
    go_wp2_with (go_at_call 69;refine (ldigit_any _ _).mono ?_;rintro e w' ⟨rfl,rfl⟩)
    go_ret
    exact ⟨rfl,rfl⟩
  ·have hl2 : ¬ (97 ≤ c ∧ c ≤ 122) := by simpa [lowB] using hl
   simp only [hd,hl,if_true,if_false,Bool.false_eq_true]
   by_cases hz : 97 ≤ c
   all_goals by_cases hb : -1 < b
   all_goals
    go_enter Tryz.func122,Tryz.ntmps122
    go_wp2_with (go_at_call 69;refine (ldigit_any _ _).mono ?_;rintro e w' ⟨rfl,rfl⟩)
    go_ret
    exact ⟨rfl,rfl⟩
theorem number1_any (c : Int) (j k : Nat) (w : World) (h0 : 0 ≤ c) (h1 : c ≤ 255) (h : w.cell? ⟨k,0,none⟩ = some (.int .i64 10)) (hj : w.cell? ⟨j,0,none⟩ = some (.func (.func 122) #[] #[.pointer (some ⟨k,0,none⟩)])) :
  Calls Tryz.prog 100 #[.int .u8 c,.pointer (some ⟨j,0,none⟩)] w fun e w' => e = .returned (.bool (digB c)) ∧ w = w' := by
 have hz : digB c = decide (0 ≤ dgtI 10 c) := by
  unfold dgtI
  rcases Bool.eq_false_or_eq_true (digB c) with hd | hd
  ·have hd2 : 48 ≤ c ∧ c ≤ 57 := by simpa [digB] using hd
   simp [hd];rw [if_pos (by omega)];omega
  ·rcases Bool.eq_false_or_eq_true (lowB c) with hl | hl
   ·have hl2 : 97 ≤ c ∧ c ≤ 122 := by simpa [lowB] using hl
    simp [hd,hl];rw [if_neg (by omega)];omega
   ·simp [hd,hl]
 rw [hz]
 clear hz
 go_enter Tryz.func100,Tryz.ntmps100
 go_wp2_with fail
 refine (digits1_any 10 c k _ h0 h1 h).mono ?_
 rintro e w' ⟨rfl,rfl⟩
 go_wp2_with fail
 all_goals go_ret
 all_goals exact ⟨ret_bool (by simp [*]),rfl⟩
theorem digits_any (b : Int) (w : World) : Calls Tryz.prog 99 #[.int .i64 b] w fun e w' => e = .returned (.func (.func 122) #[] #[.pointer (some ⟨w.heap.size,0,none⟩)]) ∧ w.alloc (.cells #[.int .i64 b] 3) = w' := by
 have hmf : ∀ (fn : Fn) (first cap : Array Value) (w : World),(Instr.makeFunc fn first cap).run Tryz.prog w = .ok (.func fn first cap) w := fun _ _ _ _ => rfl
 go_enter Tryz.func99,Tryz.ntmps99
 go_wp2
 go_ret
 exact ⟨rfl,rfl⟩
def runN (q : Int -> Bool) : List UInt8 -> Nat
 | [] => 0
 | c :: r => if q (c.toNat : Int) = true then runN q r + 1 else 0
theorem runN_le (q : Int -> Bool) : ∀ l : List UInt8,runN q l ≤ l.length
 | [] => Nat.le_refl _
 | c :: r => by
  have := runN_le q r
  simp only [runN,List.length_cons]
  split <;> omega
def rest (s : ByteArray) (p : Nat) : List UInt8 := s.data.toList.drop p
theorem rest_lt (s : ByteArray) (p : Nat) (h : p < s.size) : rest s p = s[p] :: rest s (p + 1) := by
 unfold rest
 rw [List.drop_eq_getElem_cons (by rw [size_list];exact h)]
 try rfl
theorem rest_end (s : ByteArray) (p : Nat) (h : s.size ≤ p) : rest s p = [] := by
 unfold rest
 rw [List.drop_eq_nil_iff]
 exact h
theorem rest_len (s : ByteArray) (p : Nat) : (rest s p).length = s.size - p := by
 unfold rest
 rw [List.length_drop,size_list]
theorem rest_drop (s : ByteArray) (p k : Nat) : (rest s p).drop k = rest s (p + k) := by
 unfold rest
 rw [List.drop_drop]
theorem byte_le (c : UInt8) : 0 ≤ (c.toNat : Int) ∧ (c.toNat : Int) ≤ 255 := by
 have := c.toNat_lt
 omega
structure Rd (b : Nat) (s : ByteArray) (p : Nat) (w w' : World) : Prop where
 os : w'.os = w.os
 tape : w'.tape = w.tape
 output : w'.output = w.output
 size : w.heap.size ≤ w'.heap.size
 lt : b < w.heap.size
 block : ∀ k,k < w.heap.size -> k ≠ b -> w'.heap[k]? = w.heap[k]?
 here : w'.heap[b]? = some (.cells #[.string s,.int .i64 p] 89 (0,0))
theorem Rd.trans {b : Nat} {s s' : ByteArray} {p p' : Nat} {w w1 w2 : World} (h : Rd b s p w w1) (k : Rd b s' p' w1 w2) : Rd b s' p' w w2 :=
 ⟨k.os.trans h.os,k.tape.trans h.tape,k.output.trans h.output,Nat.le_trans h.size k.size,h.lt,fun i hi hn => (k.block i (Nat.lt_of_lt_of_le hi h.size) hn).trans (h.block i hi hn),k.here⟩
theorem Rd.refl {b : Nat} {s : ByteArray} {p : Nat} {w : World} (h : w.heap[b]? = some (.cells #[.string s,.int .i64 p] 89 (0,0))) : Rd b s p w w :=
 ⟨rfl,rfl,rfl,Nat.le_refl _,by
  rcases Nat.lt_or_ge b w.heap.size with h' | h'
  ·exact h'
  ·simp [Array.getElem?_eq_none h'] at h,fun _ _ _ => rfl,h⟩
theorem Rd.below {b : Nat} {s : ByteArray} {p : Nat} {w w1 w2 : World} (h : Rd b s p w w1) (k : Below w1.heap.size w1 w2) : Rd b s p w w2 :=
 ⟨k.os.trans h.os,k.tape.trans h.tape,k.output.trans h.output,Nat.le_trans h.size k.size,h.lt,fun i hi hn => (k.block i (Nat.lt_of_lt_of_le hi h.size)).trans (h.block i hi hn),(k.block b (Nat.lt_of_lt_of_le h.lt h.size)).trans h.here⟩
theorem Rd.drewN {b : Nat} {s : ByteArray} {p : Nat} {w w1 : World} (h : Rd b s p w w1) (n : Nat) : Rd b s p w (w1.drewN n) := ⟨h.os,h.tape,h.output,h.size,h.lt,h.block,h.here⟩
theorem Rd.put {b : Nat} {s : ByteArray} {p : Nat} {w w1 : World} (h : Rd b s p w w1) (q : Nat) (v : Int) (hv : v = (q : Int)) : Rd b s q w (w1.setCell ⟨b,1,none⟩ (.int .i64 v)) := by
 subst hv
 refine ⟨h.os,h.tape,h.output,by simpa [World.setCell] using h.size,h.lt,fun i hi hn => ?_,?_⟩
 ·rw [Below.heap_setCell _ _ _ _ (fun e => hn e)]
  exact h.block i hi hn
 ·simp [World.setCell,Array.getElem?_modify,h.here]
theorem Rd.own {b : Nat} {s : ByteArray} {p : Nat} {w w1 : World} (h : Rd b s p w w1) {a : Addr} (ha : w.heap.size ≤ a.block) (u : Value) : Rd b s p w (w1.setCell a u) := by
 have hlt := h.lt
 refine ⟨h.os,h.tape,h.output,by simpa [World.setCell] using h.size,h.lt,fun i hi hn => ?_,?_⟩
 ·rw [Below.heap_setCell _ _ _ _ (by omega)]
  exact h.block i hi hn
 ·rw [Below.heap_setCell _ _ _ _ (by omega)]
  exact h.here
theorem Rd.alloc {b : Nat} {s : ByteArray} {p : Nat} {w w1 : World} (h : Rd b s p w w1) (o : Obj) : Rd b s p w (w1.alloc o) := h.below ((Below.refl _ _).alloc (Nat.le_refl _) _)
theorem Rd.c0 {b : Nat} {s : ByteArray} {p : Nat} {w w1 : World} (h : Rd b s p w w1) : w1.cell? ⟨b,0,none⟩ = some (.string s) := by simp [World.cell?,h.here]
theorem Rd.c1 {b : Nat} {s : ByteArray} {p : Nat} {w w1 : World} (h : Rd b s p w w1) : w1.cell? ⟨b,1,none⟩ = some (.int .i64 p) := by simp [World.cell?,h.here]
theorem Rd.f1 {b : Nat} {s : ByteArray} {p : Nat} {w w1 : World} (h : Rd b s p w w1) : w1.frozen? ⟨b,1,none⟩ = false := by simp [World.frozen?,h.here]
theorem Rd.cell {b : Nat} {s : ByteArray} {p : Nat} {w w1 : World} (h : Rd b s p w w1) {a : Addr} {v : Value} (hb : a.block ≠ b) (hc : w.cell? a = some v) : w1.cell? a = some v := by
 rw [← hc]
 exact World.cell?_of_block (w := w) (h.block a.block (Nat.lt_of_not_le fun hn => by simp [World.cell?,Array.getElem?_eq_none hn] at hc) hb)
theorem Rd.of_below {b : Nat} {s : ByteArray} {p : Nat} {w w1 : World} (h : Rd b s p w w1) : Below b w w1 := ⟨h.os,h.tape,h.output,h.size,fun k hk => h.block k (by have := h.lt;omega) (by omega)⟩
end Go.Proofs.YtkoabcncdjmoeaaGreatDoor

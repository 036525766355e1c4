/- Parts of the proof: Low, Math, Shape. -/
import Derived.WalkKit
import Derived.ProofKit
import Derived.OpenShut
import Derived.Handy
import Derived.BigQuiet
import Derived.Deep.QuietTactic
import Derived.Lib.Hide
import Derived.Laws.RangeAny
import Derived.Lib.OthersKept
import Derived.Test.YtkoabcncdjmoeaaGreatDoorRows
set_option linter.unusedSimpArgs false
set_option linter.unusedVariables false
set_option maxRecDepth 1000000
set_option maxHeartbeats 40000000
namespace Go.Proofs.YtkoabcncdjmoeaaGreatDoor
open Go.RowKit
def lowB (c : Int) : Bool := decide (97 ≤ c) && decide (c ≤ 122)
def upB (c : Int) : Bool := decide (65 ≤ c) && decide (c ≤ 90)
def digB (c : Int) : Bool := decide (48 ≤ c) && decide (c ≤ 57)
def begunI (c : Int) : Int := if lowB c = true then 1 else if upB c = true then 2 else 0
def contB (k c : Int) : Bool := (k == 2 && upB c) || ((k == 1 || k == 2) && (lowB c || digB c))
theorem ret_bool {a b : Bool} (h : a = b) : Ending.returned (.bool a) = .returned (.bool b) := by rw [h]
theorem ret_int {k : IntKind} {a b : Int} (h : a = b) : Ending.returned (.int k a) = .returned (.int k b) := by rw [h]
theorem lower_any (c : Int) (w : World) : Calls Tryz.prog 140 #[.int .i32 c] w fun e w' => e = .returned (.bool (lowB c)) ∧ w = w' := by
 go_enter Tryz.func140,Tryz.ntmps140
 go_wp2
 all_goals go_ret
 all_goals exact ⟨ret_bool (by simp [lowB, *] <;> omega),rfl⟩
theorem upper_any (c : Int) (w : World) : Calls Tryz.prog 141 #[.int .i32 c] w fun e w' => e = .returned (.bool (upB c)) ∧ w = w' := by
 go_enter Tryz.func141,Tryz.ntmps141
 go_wp2
 all_goals go_ret
 all_goals exact ⟨ret_bool (by simp [upB, *] <;> omega),rfl⟩
theorem digit_any (c : Int) (w : World) : Calls Tryz.prog 142 #[.int .i32 c] w fun e w' => e = .returned (.bool (digB c)) ∧ w = w' := by
 go_enter Tryz.func142,Tryz.ntmps142
 go_wp2
 all_goals go_ret
 all_goals exact ⟨ret_bool (by simp [digB, *] <;> omega),rfl⟩
theorem begun_any (c : Int) (w : World) : Calls Tryz.prog 130 #[.int .i32 c] w fun e w' => e = .returned (.int .i64 (begunI c)) ∧ w = w' := by
 go_enter Tryz.func130,Tryz.ntmps130
 go_wp2_with (first | (go_at_call 140;refine (lower_any _ _).mono ?_;rintro e w' ⟨rfl,rfl⟩) | (go_at_call 141;refine (upper_any _ _).mono ?_;rintro e w' ⟨rfl,rfl⟩))
 all_goals go_ret
 all_goals exact ⟨ret_int (by simp [begunI, *]),rfl⟩
theorem continues_any (k c : Int) (w : World) : Calls Tryz.prog 131 #[.int .i64 k,.int .i32 c] w fun e w' => e = .returned (.bool (contB k c)) ∧ w = w' := by
 go_enter Tryz.func131,Tryz.ntmps131
 go_wp2_with (first | (go_at_call 140;refine (lower_any _ _).mono ?_;rintro e w' ⟨rfl,rfl⟩) | (go_at_call 141;refine (upper_any _ _).mono ?_;rintro e w' ⟨rfl,rfl⟩) | (go_at_call 142;refine (digit_any _ _).mono ?_;rintro e w' ⟨rfl,rfl⟩))
 all_goals go_ret
 all_goals exact ⟨ret_bool (by simp_all [contB]),rfl⟩
def shapeI : List UInt8 -> Int
 | [] => 0
 | a :: r => if r.all (fun c => contB (begunI (a.toNat : Int)) (c.toNat : Int)) = true then begunI (a.toNat : Int) else 0
theorem begun_high (c : Int) (h : 128 ≤ c) : begunI c = 0 := by
 simp [begunI,lowB,upB];omega
theorem cont_high (k c : Int) (h : 128 ≤ c) : contB k c = false := by
 have h1 : lowB c = false := by simp [lowB];omega
 have h2 : upB c = false := by simp [upB];omega
 have h3 : digB c = false := by simp [digB];omega
 simp [contB,h1,h2,h3]
def ShapeAt (s : ByteArray) (pos : Nat) (kind : Int) : Prop :=
 (pos = 0 ∧ kind = 0) ∨ (0 < pos ∧ ∃ a r,s.data.toList = a :: r ∧ kind = begunI (a.toNat : Int) ∧ (kind = 0 ∨ (pos ≤ s.size ∧ ∀ j c,j + 1 < pos -> r[j]? = some c -> contB kind (c.toNat : Int) = true)))
theorem size_list (s : ByteArray) : s.data.toList.length = s.size := rfl
theorem shapeAt_end {s : ByteArray} {pos : Nat} {kind : Int} (h : ShapeAt s pos kind) (hp : ¬ pos < s.size) : kind = shapeI s.data.toList := by
 rcases h with ⟨rfl,rfl⟩ | ⟨h0,a,r,hl,hk,h2⟩
 ·have : s.data.toList = [] := by have := size_list s;cases h : s.data.toList with
   | nil => rfl
   | cons a r => rw [h] at this;simp at this;omega
  rw [this];rfl
 ·rw [hl]
  simp only [shapeI]
  rcases h2 with h2 | ⟨h3,h4⟩
  ·rw [← hk,h2];simp
  ·rw [← hk,if_pos]
   rw [List.all_eq_true]
   intro c hc
   obtain ⟨j,hj⟩ := List.mem_iff_getElem?.1 hc
   have hlen := size_list s
   rw [hl] at hlen
   simp at hlen
   have hjl : j < r.length := by
    have := (List.getElem?_eq_some_iff.1 hj).1
    exact this
   exact h4 j c (by omega) hj
theorem byte_at (s : ByteArray) (pos : Nat) (hp : pos < s.size) : s.data.toList[pos]? = some (s[pos]'hp) := by
 have h : pos < s.data.toList.length := by rw [size_list];exact hp
 rw [List.getElem?_eq_getElem h]
 try rfl
theorem shapeAt_bad {s : ByteArray} {pos : Nat} {kind : Int} (h : ShapeAt s pos kind) (hp : pos < s.size) (h0 : 0 < pos) (hc : contB kind ((s[pos]'hp).toNat : Int) = false ∨ kind = 0) : shapeI s.data.toList = 0 := by
 rcases h with ⟨rfl,rfl⟩ | ⟨_,a,r,hl,hk,h2⟩
 ·omega
 ·have hb := byte_at s pos hp
  rw [hl]
  simp only [shapeI]
  rw [← hk]
  split
  ·rename_i hall
   rcases hc with hc | hc
   ·rw [List.all_eq_true] at hall
    rw [hl] at hb
    obtain ⟨q,rfl⟩ : ∃ q,pos = q + 1 := ⟨pos - 1,by omega⟩
    simp at hb
    have := hall _ (List.mem_iff_getElem?.2 ⟨q,hb⟩)
    rw [this] at hc
    cases hc
   ·exact hc
  ·rfl
theorem shapeAt_zero {s : ByteArray} (hp : 0 < s.size) (wd : Nat) (hw : 1 ≤ wd) (c : Int) (h : (wd = 1 ∧ c = ((s[0]'hp).toNat : Int)) ∨ (128 ≤ c ∧ 128 ≤ ((s[0]'hp).toNat : Int))) : ShapeAt s wd (begunI c) := by
 right
 have hb := byte_at s 0 hp
 cases hl : s.data.toList with
 | nil => rw [hl] at hb;simp at hb
 | cons a r =>
  rw [hl] at hb
  simp at hb
  refine ⟨by omega,a,r,rfl,?_,?_⟩
  ·rcases h with ⟨_,h⟩ | ⟨h1,h2⟩
   ·rw [h,hb]
   ·rw [begun_high _ h1,hb,begun_high _ h2]
  ·rcases h with ⟨rfl,_⟩ | ⟨h1,_⟩
   ·exact .inr ⟨by omega,fun j c hj _ => by omega⟩
   ·exact .inl (begun_high _ h1)
theorem shapeAt_step {s : ByteArray} {pos : Nat} {kind : Int} (h : ShapeAt s pos kind) (hp : pos < s.size) (h0 : 0 < pos) (hc : contB kind ((s[pos]'hp).toNat : Int) = true) : ShapeAt s (pos + 1) kind := by
 rcases h with ⟨rfl,rfl⟩ | ⟨_,a,r,hl,hk,h2⟩
 ·omega
 ·refine .inr ⟨by omega,a,r,hl,hk,?_⟩
  rcases h2 with h2 | ⟨h3,h4⟩
  ·exact .inl h2
  ·refine .inr ⟨by omega,fun j c hj hjc => ?_⟩
   by_cases hjp : j + 1 = pos
   ·have hb := byte_at s pos hp
    subst hjp
    rw [hl] at hb
    simp at hb
    rw [hjc] at hb
    obtain rfl := Option.some.inj hb
    exact hc
   ·exact h4 j c (by omega) hjc
theorem iterPos_of {w : World} {k : Nat} {s : ByteArray} {p : Nat} (h : w.heap[k]? = some (.stringIter s p)) : w.iterPos k = p := by simp [World.iterPos,h]
theorem decode_cases (s : ByteArray) (pos : Nat) (hp : pos < s.size) : ∃ c wd : Nat,Utf8.decode s pos = (c,wd) ∧ 1 ≤ wd ∧ ((wd = 1 ∧ (c : Int) = ((s[pos]'hp).toNat : Int)) ∨ (128 ≤ (c : Int) ∧ 128 ≤ ((s[pos]'hp).toNat : Int))) := by
 by_cases ha : (s[pos]'hp).toNat < 128
 ·exact ⟨_,1,decode_ascii s pos hp ha,Nat.le_refl _,.inl ⟨rfl,rfl⟩⟩
 ·have h := decode_high s pos hp (by omega)
  exact ⟨(Utf8.decode s pos).1,(Utf8.decode s pos).2,rfl,h.2,.inr ⟨by have := h.1;omega,by omega⟩⟩
theorem shape_any (s : ByteArray) (w : World) :
  Calls Tryz.prog 123 #[.string s] w fun e w' => e = .returned (.int .i64 (shapeI s.data.toList)) ∧ Below w.heap.size w w' := by
 go_enter Tryz.func123,Tryz.ntmps123
 go_wp2
 go_loopw [3] (fun v wr => ∃ (pos : Nat) (kind : Int),v = .int .i64 kind ∧ wr.heap[w.heap.size]? = some (.stringIter s pos) ∧ Below w.heap.size w wr ∧ ShapeAt s pos kind) (fun _ wr => s.size - wr.iterPos w.heap.size)
 case atStart => exact ⟨0,0,rfl,World.iter_heap w s 0,(Below.refl _ _).alloc (Nat.le_refl _) _,.inl ⟨rfl,rfl⟩⟩
 case round =>
  obtain ⟨pos,kind,rfl,hit,hbw,hsh⟩ := hrel
  have hpos0 := iterPos_of hit
  by_cases hp : pos < s.size
  ·obtain ⟨c,wd,hdec,hwd,hc⟩ := decode_cases s pos hp
   have hnx : ∀ ty,(Instr.next (.pointer (some ⟨w.heap.size,0,none⟩)) true ty).run Tryz.prog wr = _ := fun ty => Lib.run_next_any_at wr w.heap.size s pos ty hit hp
   rw [hdec] at hnx
   have hit2 := Lib.iterAt_heap wr w.heap.size s pos (pos + wd) hit
   have hbw2 := Lib.below_iterAt hbw (k := w.heap.size) (Nat.le_refl _) s (pos + wd)
   simp only at hnx
   obtain ⟨W1,hW1⟩ : ∃ W1,W1 = wr.iterAt w.heap.size s (pos + wd) := ⟨_,rfl⟩
   rw [← hW1] at hnx hit2 hbw2
   clear hW1 hit hdec
   by_cases h0 : pos = 0
   ·subst h0
    have hx : ShapeAt s wd (begunI (c : Int)) := shapeAt_zero hp wd hwd (c : Int) hc
    clear hc hsh
    go_wp2_with (go_at_call 130;refine (begun_any _ _).mono ?_;rintro e w' ⟨rfl,rfl⟩)
    go_roundw
    case rel => exact ⟨wd,_,rfl,by simpa using hit2,hbw2,hx⟩
    case measure => rw [iterPos_of hit2,hpos0];omega
   ·have hz : (((pos : Nat) : Int) == 0) = false := by simp;omega
    have hzz : ∀ W,Calls Tryz.prog 131 #[.int .i64 kind,.int .i32 (c : Int)] W fun e w' => e = .returned (.bool (contB kind (c : Int))) ∧ W = w' := fun W => continues_any kind (c : Int) W
    by_cases hg : contB kind (c : Int) = true
    ·have hx : ShapeAt s (pos + wd) kind := by
      rcases hc with ⟨rfl,h⟩ | ⟨h,_⟩
      ·exact shapeAt_step hsh hp (by omega) (by rw [← h];exact hg)
      ·rw [cont_high _ _ h] at hg;cases hg
     clear hc hsh
     go_wp2_with (go_at_call 131;refine (continues_any _ _ _).mono ?_;rintro e w' ⟨rfl,rfl⟩)
     go_roundw
     case rel => exact ⟨pos + wd,_,rfl,hit2,hbw2,hx⟩
     case measure => rw [iterPos_of hit2,hpos0];omega
    ·have hg : contB kind (c : Int) = false := by simpa using hg
     have hx : shapeI s.data.toList = 0 := by
      refine shapeAt_bad hsh hp (by omega) ?_
      rcases hc with ⟨_,h⟩ | ⟨_,h⟩
      ·rw [← h];exact .inl hg
      ·exact .inl (cont_high _ _ h)
     have HX := Lib.hid hx
     clear hc hsh hx
     go_wp2_with (go_at_call 131;refine (continues_any _ _ _).mono ?_;rintro e w' ⟨rfl,rfl⟩)
     go_ret
     exact ⟨ret_int HX.out.symm,hbw2⟩
  ·have hnx : ∀ ty,(Instr.next (.pointer (some ⟨w.heap.size,0,none⟩)) true ty).run Tryz.prog wr = _ := fun ty => Lib.run_next_end_at wr w.heap.size s pos ty hit hp
   have HX := Lib.hid (shapeAt_end hsh hp)
   clear hsh
   go_wp2
   go_ret
   exact ⟨ret_int HX.out,hbw⟩
def keptI (l : List UInt8) : Int :=
 if (l == [108,101,116]) = true then 3 else
 if (l == [105,110]) = true then 3 else
 if (l == [105,102]) = true then 3 else
 if (l == [116,104,101,110]) = true then 3 else
 if (l == [101,108,115,101]) = true then 3 else
 if (l == [102,110]) = true then 3 else
 if (l == [99,97,108,108]) = true then 3 else
 if (l == [100,101,102]) = true then 3 else
 if (l == [116,114,117,101]) = true then 3 else
 if (l == [102,97,108,115,101]) = true then 3 else
 if (l == [73,110,116]) = true then 4 else
 if (l == [66,111,111,108]) = true then 4 else
 if (l == [83,116,114,105,110,103]) = true then 4 else
 if (l == [84,111,112]) = true then 4 else
 0
def kindI (l : List UInt8) : Int := if keptI l = 0 then (if 8 < l.length then 0 else shapeI l) else keptI l
theorem kept_long (l : List UInt8) (h : 8 < l.length) : keptI l = 0 := by
 unfold keptI
 repeat (rw [if_neg (by intro e;rw [beq_iff_eq] at e;subst e;simp at h)])
theorem ite_P {P : Int -> Prop} {c : Prop} [Decidable c] {a b : Int} (ha : P a) (hb : P b) : P (if c then a else b) := by
 split
 ·exact ha
 ·exact hb
theorem kept_vals (l : List UInt8) : keptI l = 0 ∨ keptI l = 3 ∨ keptI l = 4 := by
 unfold keptI
 repeat' (first | exact .inl rfl | exact .inr (.inl rfl) | exact .inr (.inr rfl) | refine ite_P (P := fun x : Int => x = 0 ∨ x = 3 ∨ x = 4) ?_ ?_)
theorem nkind_any (s : ByteArray) (w : World) (hs : s.size ≤ maxLen) :
  Calls Tryz.prog 104 #[.string s] w fun e w' => e = .returned (.int .i64 (kindI s.data.toList)) ∧ Below w.heap.size w w' := by
 unfold maxLen at hs
 have hl := size_list s
 by_cases h8 : 8 < s.size
 ·go_enter Tryz.func104,Tryz.ntmps104
  go_wp2
  go_ret
  exact ⟨ret_int (by simp [kindI,kept_long s.data.toList (by omega)];omega),Below.refl _ _⟩
 rcases Bool.eq_false_or_eq_true (s.toList == [108,101,116]) with h0 | h0
 ·go_enter Tryz.func104,Tryz.ntmps104
  go_wp2_with (go_at_call 123;refine (shape_any _ _).mono ?_;rintro e w' ⟨rfl,hb⟩)
  go_ret
  exact ⟨ret_int (by rw [ByteArray.toList_eq] at *;simp [kindI,keptI, *]),by first | exact Below.refl _ _ | exact hb⟩
 rcases Bool.eq_false_or_eq_true (s.toList == [105,110]) with h1 | h1
 ·go_enter Tryz.func104,Tryz.ntmps104
  go_wp2_with (go_at_call 123;refine (shape_any _ _).mono ?_;rintro e w' ⟨rfl,hb⟩)
  go_ret
  exact ⟨ret_int (by rw [ByteArray.toList_eq] at *;simp [kindI,keptI, *]),by first | exact Below.refl _ _ | exact hb⟩
 rcases Bool.eq_false_or_eq_true (s.toList == [105,102]) with h2 | h2
 ·go_enter Tryz.func104,Tryz.ntmps104
  go_wp2_with (go_at_call 123;refine (shape_any _ _).mono ?_;rintro e w' ⟨rfl,hb⟩)
  go_ret
  exact ⟨ret_int (by rw [ByteArray.toList_eq] at *;simp [kindI,keptI, *]),by first | exact Below.refl _ _ | exact hb⟩
 rcases Bool.eq_false_or_eq_true (s.toList == [116,104,101,110]) with h3 | h3
 ·go_enter Tryz.func104,Tryz.ntmps104
  go_wp2_with (go_at_call 123;refine (shape_any _ _).mono ?_;rintro e w' ⟨rfl,hb⟩)
  go_ret
  exact ⟨ret_int (by rw [ByteArray.toList_eq] at *;simp [kindI,keptI, *]),by first | exact Below.refl _ _ | exact hb⟩
 rcases Bool.eq_false_or_eq_true (s.toList == [101,108,115,101]) with h4 | h4
 ·go_enter Tryz.func104,Tryz.ntmps104
  go_wp2_with (go_at_call 123;refine (shape_any _ _).mono ?_;rintro e w' ⟨rfl,hb⟩)
  go_ret
  exact ⟨ret_int (by rw [ByteArray.toList_eq] at *;simp [kindI,keptI, *]),by first | exact Below.refl _ _ | exact hb⟩
 rcases Bool.eq_false_or_eq_true (s.toList == [102,110]) with h5 | h5
 ·go_enter Tryz.func104,Tryz.ntmps104
  go_wp2_with (go_at_call 123;refine (shape_any _ _).mono ?_;rintro e w' ⟨rfl,hb⟩)
  go_ret
  exact ⟨ret_int (by rw [ByteArray.toList_eq] at *;simp [kindI,keptI, *]),by first | exact Below.refl _ _ | exact hb⟩
 rcases Bool.eq_false_or_eq_true (s.toList == [99,97,108,108]) with h6 | h6
 ·go_enter Tryz.func104,Tryz.ntmps104
  go_wp2_with (go_at_call 123;refine (shape_any _ _).mono ?_;rintro e w' ⟨rfl,hb⟩)
  go_ret
  exact ⟨ret_int (by rw [ByteArray.toList_eq] at *;simp [kindI,keptI, *]),by first | exact Below.refl _ _ | exact hb⟩
 rcases Bool.eq_false_or_eq_true (s.toList == [100,101,102]) with h7 | h7
 ·go_enter Tryz.func104,Tryz.ntmps104
  go_wp2_with (go_at_call 123;refine (shape_any _ _).mono ?_;rintro e w' ⟨rfl,hb⟩)
  go_ret
  exact ⟨ret_int (by rw [ByteArray.toList_eq] at *;simp [kindI,keptI, *]),by first | exact Below.refl _ _ | exact hb⟩
 rcases Bool.eq_false_or_eq_true (s.toList == [116,114,117,101]) with h8 | h8
 ·go_enter Tryz.func104,Tryz.ntmps104
  go_wp2_with (go_at_call 123;refine (shape_any _ _).mono ?_;rintro e w' ⟨rfl,hb⟩)
  go_ret
  exact ⟨ret_int (by rw [ByteArray.toList_eq] at *;simp [kindI,keptI, *]),by first | exact Below.refl _ _ | exact hb⟩
 rcases Bool.eq_false_or_eq_true (s.toList == [102,97,108,115,101]) with h9 | h9
 ·go_enter Tryz.func104,Tryz.ntmps104
  go_wp2_with (go_at_call 123;refine (shape_any _ _).mono ?_;rintro e w' ⟨rfl,hb⟩)
  go_ret
  exact ⟨ret_int (by rw [ByteArray.toList_eq] at *;simp [kindI,keptI, *]),by first | exact Below.refl _ _ | exact hb⟩
 rcases Bool.eq_false_or_eq_true (s.toList == [73,110,116]) with h10 | h10
 ·go_enter Tryz.func104,Tryz.ntmps104
  go_wp2_with (go_at_call 123;refine (shape_any _ _).mono ?_;rintro e w' ⟨rfl,hb⟩)
  go_ret
  exact ⟨ret_int (by rw [ByteArray.toList_eq] at *;simp [kindI,keptI, *]),by first | exact Below.refl _ _ | exact hb⟩
 rcases Bool.eq_false_or_eq_true (s.toList == [66,111,111,108]) with h11 | h11
 ·go_enter Tryz.func104,Tryz.ntmps104
  go_wp2_with (go_at_call 123;refine (shape_any _ _).mono ?_;rintro e w' ⟨rfl,hb⟩)
  go_ret
  exact ⟨ret_int (by rw [ByteArray.toList_eq] at *;simp [kindI,keptI, *]),by first | exact Below.refl _ _ | exact hb⟩
 rcases Bool.eq_false_or_eq_true (s.toList == [83,116,114,105,110,103]) with h12 | h12
 ·go_enter Tryz.func104,Tryz.ntmps104
  go_wp2_with (go_at_call 123;refine (shape_any _ _).mono ?_;rintro e w' ⟨rfl,hb⟩)
  go_ret
  exact ⟨ret_int (by rw [ByteArray.toList_eq] at *;simp [kindI,keptI, *]),by first | exact Below.refl _ _ | exact hb⟩
 rcases Bool.eq_false_or_eq_true (s.toList == [84,111,112]) with h13 | h13
 ·go_enter Tryz.func104,Tryz.ntmps104
  go_wp2_with (go_at_call 123;refine (shape_any _ _).mono ?_;rintro e w' ⟨rfl,hb⟩)
  go_ret
  exact ⟨ret_int (by rw [ByteArray.toList_eq] at *;simp [kindI,keptI, *]),by first | exact Below.refl _ _ | exact hb⟩
 go_enter Tryz.func104,Tryz.ntmps104
 go_wp2_with (go_at_call 123;refine (shape_any _ _).mono ?_;rintro e w' ⟨rfl,hb⟩)
 go_ret
 exact ⟨ret_int (by rw [ByteArray.toList_eq] at *;simp [kindI,keptI, *]),by first | exact Below.refl _ _ | exact hb⟩
end Go.Proofs.YtkoabcncdjmoeaaGreatDoor

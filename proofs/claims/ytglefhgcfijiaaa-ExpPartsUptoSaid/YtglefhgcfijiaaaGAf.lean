/- Parts of the proof: Shape, Strs, SbM, PwBd, PwRn, EpD, TyV, TyS, TyE. -/
import Derived.WalkLawsBesides
import Derived.Test.YtglefhgcfijiaaaGAe
set_option linter.unusedSimpArgs false
set_option linter.unusedVariables false
set_option maxRecDepth 1000000
set_option maxHeartbeats 40000000
namespace Go.Proofs.Ytglefhgcfijiaaa
open Go.RowKit
theorem iterPos_of {w : World} {k : Nat} {s : ByteArray} {p : Nat} (h : w.heap[k]? = some (.stringIter s p)) : w.iterPos k = p := by simp [World.iterPos,h]
theorem decode_cases (s : ByteArray) (pos : Nat) (hp : pos < s.size) : ∃ c wd : Nat,Utf8.decode s pos = (c,wd) ∧ 1 ≤ wd ∧ ((wd = 1 ∧ (c : Int) = ((s[pos]'hp).toNat : Int)) ∨ (128 ≤ (c : Int) ∧ 128 ≤ ((s[pos]'hp).toNat : Int))) := by
 by_cases ha : (s[pos]'hp).toNat < 128
 ·exact ⟨_,1,decode_ascii s pos hp ha,Nat.le_refl _,.inl ⟨rfl,rfl⟩⟩
 ·have h := decode_high s pos hp (by omega)
  exact ⟨(Utf8.decode s pos).1,(Utf8.decode s pos).2,rfl,h.2,.inr ⟨by have := h.1;omega,by omega⟩⟩
theorem shape_any (s : ByteArray) (w : World) :
  Calls Try.prog 81 #[.string s] w fun e w' => e = .returned (.int .i64 (shapeI s.data.toList)) ∧ Below w.heap.size w w' := by
 go_enter Try.func81,Try.ntmps81
 go_wp2
 go_loopw [3] (fun v wr => ∃ (pos : Nat) (kind : Int),v = .int .i64 kind ∧ wr.heap[w.heap.size]? = some (.stringIter s pos) ∧ Below w.heap.size w wr ∧ ShapeAt s pos kind) (fun _ wr => s.size - wr.iterPos w.heap.size)
 case atStart => exact ⟨0,0,rfl,World.iter_heap w s 0,(Below.refl _ _).alloc (Nat.le_refl _) _,.inl ⟨rfl,rfl⟩⟩
 case round =>
  obtain ⟨pos,kind,rfl,hit,hbw,hsh⟩ := hrel
  have hpos0 := iterPos_of hit
  by_cases hp : pos < s.size
  ·obtain ⟨c,wd,hdec,hwd,hc⟩ := decode_cases s pos hp
   have hnx : ∀ ty,(Instr.next (.pointer (some ⟨w.heap.size,0,none⟩)) true ty).run Try.prog wr = _ := fun ty => Lib.run_next_any_at wr w.heap.size s pos ty hit hp
   rw [hdec] at hnx
   have hit2 := Lib.iterAt_heap wr w.heap.size s pos (pos + wd) hit
   have hbw2 := Lib.below_iterAt hbw (k := w.heap.size) (Nat.le_refl _) s (pos + wd)
   simp only at hnx
   obtain ⟨W1,hW1⟩ : ∃ W1,W1 = wr.iterAt w.heap.size s (pos + wd) := ⟨_,rfl⟩
   rw [← hW1] at hnx hit2 hbw2
   clear hW1 hit hdec
   by_cases h0 : pos = 0
   ·subst h0
    have hx : ShapeAt s wd (begunI (c : Int)) := shapeAt_zero hp wd hwd (c : Int) hc
    clear hc hsh
    go_wp2_with (go_at_call 101;refine (begun_any _ _).mono ?_;rintro e w' ⟨rfl,rfl⟩)
    go_roundw
    case rel => exact ⟨wd,_,rfl,by simpa using hit2,hbw2,hx⟩
    case measure => rw [iterPos_of hit2,hpos0];omega
   ·have hz : (((pos : Nat) : Int) == 0) = false := by simp;omega
    have hzz : ∀ W,Calls Try.prog 102 #[.int .i64 kind,.int .i32 (c : Int)] W fun e w' => e = .returned (.bool (contB kind (c : Int))) ∧ W = w' := fun W => continues_any kind (c : Int) W
    by_cases hg : contB kind (c : Int) = true
    ·have hx : ShapeAt s (pos + wd) kind := by
      rcases hc with ⟨rfl,h⟩ | ⟨h,_⟩
      ·exact shapeAt_step hsh hp (by omega) (by rw [← h];exact hg)
      ·rw [cont_high _ _ h] at hg;cases hg
     clear hc hsh
     go_wp2_with (go_at_call 102;refine (continues_any _ _ _).mono ?_;rintro e w' ⟨rfl,rfl⟩)
     go_roundw
     case rel => exact ⟨pos + wd,_,rfl,hit2,hbw2,hx⟩
     case measure => rw [iterPos_of hit2,hpos0];omega
    ·have hg : contB kind (c : Int) = false := by simpa using hg
     have hx : shapeI s.data.toList = 0 := by
      refine shapeAt_bad hsh hp (by omega) ?_
      rcases hc with ⟨_,h⟩ | ⟨_,h⟩
      ·rw [← h];exact .inl hg
      ·exact .inl (cont_high _ _ h)
     have HX := Lib.hid hx
     clear hc hsh hx
     go_wp2_with (go_at_call 102;refine (continues_any _ _ _).mono ?_;rintro e w' ⟨rfl,rfl⟩)
     go_ret
     exact ⟨ret_int HX.out.symm,hbw2⟩
  ·have hnx : ∀ ty,(Instr.next (.pointer (some ⟨w.heap.size,0,none⟩)) true ty).run Try.prog wr = _ := fun ty => Lib.run_next_end_at wr w.heap.size s pos ty hit hp
   have HX := Lib.hid (shapeAt_end hsh hp)
   clear hsh
   go_wp2
   go_ret
   exact ⟨ret_int HX.out,hbw⟩
def keptI (l : List UInt8) : Int :=
 if (l == [108,101,116]) = true then 3 else
 if (l == [105,110]) = true then 3 else
 if (l == [105,102]) = true then 3 else
 if (l == [116,104,101,110]) = true then 3 else
 if (l == [101,108,115,101]) = true then 3 else
 if (l == [102,110]) = true then 3 else
 if (l == [99,97,108,108]) = true then 3 else
 if (l == [100,101,102]) = true then 3 else
 if (l == [116,114,117,101]) = true then 3 else
 if (l == [102,97,108,115,101]) = true then 3 else
 if (l == [73,110,116]) = true then 4 else
 if (l == [66,111,111,108]) = true then 4 else
 if (l == [83,116,114,105,110,103]) = true then 4 else
 if (l == [84,111,112]) = true then 4 else
 0
def kindI (l : List UInt8) : Int := if keptI l = 0 then (if 8 < l.length then 0 else shapeI l) else keptI l
theorem kept_long (l : List UInt8) (h : 8 < l.length) : keptI l = 0 := by
 unfold keptI
 repeat (rw [if_neg (by intro e;rw [beq_iff_eq] at e;subst e;simp at h)])
theorem nkind_any (s : ByteArray) (w : World) (hs : s.size ≤ maxLen) :
  Calls Try.prog 72 #[.string s] w fun e w' => e = .returned (.int .i64 (kindI s.data.toList)) ∧ Below w.heap.size w w' := by
 unfold maxLen at hs
 have hl := size_list s
 by_cases h8 : 8 < s.size
 ·go_enter Try.func72,Try.ntmps72
  go_wp2
  go_ret
  exact ⟨ret_int (by simp [kindI,kept_long s.data.toList (by omega)];omega),Below.refl _ _⟩
 rcases Bool.eq_false_or_eq_true (s.toList == [108,101,116]) with h0 | h0
 ·go_enter Try.func72,Try.ntmps72
  go_wp2_with (go_at_call 81;refine (shape_any _ _).mono ?_;rintro e w' ⟨rfl,hb⟩)
  go_ret
  exact ⟨ret_int (by rw [ByteArray.toList_eq] at *;simp [kindI,keptI, *]),by first | exact Below.refl _ _ | exact hb⟩
 rcases Bool.eq_false_or_eq_true (s.toList == [105,110]) with h1 | h1
 ·go_enter Try.func72,Try.ntmps72
  go_wp2_with (go_at_call 81;refine (shape_any _ _).mono ?_;rintro e w' ⟨rfl,hb⟩)
  go_ret
  exact ⟨ret_int (by rw [ByteArray.toList_eq] at *;simp [kindI,keptI, *]),by first | exact Below.refl _ _ | exact hb⟩
 rcases Bool.eq_false_or_eq_true (s.toList == [105,102]) with h2 | h2
 ·go_enter Try.func72,Try.ntmps72
  go_wp2_with (go_at_call 81;refine (shape_any _ _).mono ?_;rintro e w' ⟨rfl,hb⟩)
  go_ret
  exact ⟨ret_int (by rw [ByteArray.toList_eq] at *;simp [kindI,keptI, *]),by first | exact Below.refl _ _ | exact hb⟩
 rcases Bool.eq_false_or_eq_true (s.toList == [116,104,101,110]) with h3 | h3
 ·go_enter Try.func72,Try.ntmps72
  go_wp2_with (go_at_call 81;refine (shape_any _ _).mono ?_;rintro e w' ⟨rfl,hb⟩)
  go_ret
  exact ⟨ret_int (by rw [ByteArray.toList_eq] at *;simp [kindI,keptI, *]),by first | exact Below.refl _ _ | exact hb⟩
 rcases Bool.eq_false_or_eq_true (s.toList == [101,108,115,101]) with h4 | h4
 ·go_enter Try.func72,Try.ntmps72
  go_wp2_with (go_at_call 81;refine (shape_any _ _).mono ?_;rintro e w' ⟨rfl,hb⟩)
  go_ret
  exact ⟨ret_int (by rw [ByteArray.toList_eq] at *;simp [kindI,keptI, *]),by first | exact Below.refl _ _ | exact hb⟩
 rcases Bool.eq_false_or_eq_true (s.toList == [102,110]) with h5 | h5
 ·go_enter Try.func72,Try.ntmps72
  go_wp2_with (go_at_call 81;refine (shape_any _ _).mono ?_;rintro e w' ⟨rfl,hb⟩)
  go_ret
  exact ⟨ret_int (by rw [ByteArray.toList_eq] at *;simp [kindI,keptI, *]),by first | exact Below.refl _ _ | exact hb⟩
 rcases Bool.eq_false_or_eq_true (s.toList == [99,97,108,108]) with h6 | h6
 ·go_enter Try.func72,Try.ntmps72
  go_wp2_with (go_at_call 81;refine (shape_any _ _).mono ?_;rintro e w' ⟨rfl,hb⟩)
  go_ret
  exact ⟨ret_int (by rw [ByteArray.toList_eq] at *;simp [kindI,keptI, *]),by first | exact Below.refl _ _ | exact hb⟩
 rcases Bool.eq_false_or_eq_true (s.toList == [100,101,102]) with h7 | h7
 ·go_enter Try.func72,Try.ntmps72
  go_wp2_with (go_at_call 81;refine (shape_any _ _).mono ?_;rintro e w' ⟨rfl,hb⟩)
  go_ret
  exact ⟨ret_int (by rw [ByteArray.toList_eq] at *;simp [kindI,keptI, *]),by first | exact Below.refl _ _ | exact hb⟩
 rcases Bool.eq_false_or_eq_true (s.toList == [116,114,117,101]) with h8 | h8
 ·go_enter Try.func72,Try.ntmps72
  go_wp2_with (go_at_call 81;refine (shape_any _ _).mono ?_;rintro e w' ⟨rfl,hb⟩)
  go_ret
  exact ⟨ret_int (by rw [ByteArray.toList_eq] at *;simp [kindI,keptI, *]),by first | exact Below.refl _ _ | exact hb⟩
 rcases Bool.eq_false_or_eq_true (s.toList == [102,97,108,115,101]) with h9 | h9
 ·go_enter Try.func72,Try.ntmps72
  go_wp2_with (go_at_call 81;refine (shape_any _ _).mono ?_;rintro e w' ⟨rfl,hb⟩)
  go_ret
  exact ⟨ret_int (by rw [ByteArray.toList_eq] at *;simp [kindI,keptI, *]),by first | exact Below.refl _ _ | exact hb⟩
 rcases Bool.eq_false_or_eq_true (s.toList == [73,110,116]) with h10 | h10
 ·go_enter Try.func72,Try.ntmps72
  go_wp2_with (go_at_call 81;refine (shape_any _ _).mono ?_;rintro e w' ⟨rfl,hb⟩)
  go_ret
  exact ⟨ret_int (by rw [ByteArray.toList_eq] at *;simp [kindI,keptI, *]),by first | exact Below.refl _ _ | exact hb⟩
 rcases Bool.eq_false_or_eq_true (s.toList == [66,111,111,108]) with h11 | h11
 ·go_enter Try.func72,Try.ntmps72
  go_wp2_with (go_at_call 81;refine (shape_any _ _).mono ?_;rintro e w' ⟨rfl,hb⟩)
  go_ret
  exact ⟨ret_int (by rw [ByteArray.toList_eq] at *;simp [kindI,keptI, *]),by first | exact Below.refl _ _ | exact hb⟩
 rcases Bool.eq_false_or_eq_true (s.toList == [83,116,114,105,110,103]) with h12 | h12
 ·go_enter Try.func72,Try.ntmps72
  go_wp2_with (go_at_call 81;refine (shape_any _ _).mono ?_;rintro e w' ⟨rfl,hb⟩)
  go_ret
  exact ⟨ret_int (by rw [ByteArray.toList_eq] at *;simp [kindI,keptI, *]),by first | exact Below.refl _ _ | exact hb⟩
 rcases Bool.eq_false_or_eq_true (s.toList == [84,111,112]) with h13 | h13
 ·go_enter Try.func72,Try.ntmps72
  go_wp2_with (go_at_call 81;refine (shape_any _ _).mono ?_;rintro e w' ⟨rfl,hb⟩)
  go_ret
  exact ⟨ret_int (by rw [ByteArray.toList_eq] at *;simp [kindI,keptI, *]),by first | exact Below.refl _ _ | exact hb⟩
 go_enter Try.func72,Try.ntmps72
 go_wp2_with (go_at_call 81;refine (shape_any _ _).mono ?_;rintro e w' ⟨rfl,hb⟩)
 go_ret
 exact ⟨ret_int (by rw [ByteArray.toList_eq] at *;simp [kindI,keptI, *]),by first | exact Below.refl _ _ | exact hb⟩
theorem getD_mem {ss : List ByteArray} {k : Nat} (h : k < ss.length) : stAt ss k ∈ ss := by
 rw [stAt_get h]
 exact List.getElem_mem h
theorem beq_turn (a b : List UInt8) : (a == b) = (b == a) := by
 rw [Bool.eq_iff_iff,beq_iff_eq,beq_iff_eq];exact eq_comm
def fineB (s : ByteArray) : Bool := kindI s.data.toList == 1
def varB (s : ByteArray) : Bool := kindI s.data.toList == 2
theorem fine_any (s : ByteArray) (w : World) (hs : s.size ≤ maxLen) : Calls Try.prog 56 #[.string s] w fun e w' => e = .returned (.bool (fineB s)) ∧ Below w.heap.size w w' := by
 go_enter Try.func56,Try.ntmps56
 go_wp2_with (go_at_call 72;refine (nkind_any _ _ hs).mono ?_;rintro e w' ⟨rfl,hb⟩)
 go_ret
 exact ⟨rfl,hb⟩
theorem var_any (s : ByteArray) (w : World) (hs : s.size ≤ maxLen) : Calls Try.prog 100 #[.string s] w fun e w' => e = .returned (.bool (varB s)) ∧ Below w.heap.size w w' := by
 go_enter Try.func100,Try.ntmps100
 go_wp2_with (go_at_call 72;refine (nkind_any _ _ hs).mono ?_;rintro e w' ⟨rfl,hb⟩)
 go_ret
 exact ⟨rfl,hb⟩
def ltS (a b : ByteArray) : Bool := Op.bytesLess a.toList b.toList
def upAt (ss : List ByteArray) (j : Nat) : Bool := fineB (stAt ss j) && (j == 0 || ltS (stAt ss (j - 1)) (stAt ss j))
theorem up_zero (ss : List ByteArray) : upAt ss 0 = fineB (stAt ss 0) := by simp [upAt]
theorem up_succ (ss : List ByteArray) (q : Nat) : upAt ss (q + 1) = (fineB (stAt ss (q + 1)) && ltS (stAt ss q) (stAt ss (q + 1))) := by simp [upAt]
def risingB (ss : List ByteArray) : Bool := (List.range ss.length).all (upAt ss)
theorem rising_true {ss : List ByteArray} (h : ∀ j,j < ss.length -> upAt ss j = true) : risingB ss = true := by
 simp only [risingB,List.all_eq_true,List.mem_range];exact h
theorem rising_false {ss : List ByteArray} {k : Nat} (hk : k < ss.length) (h : upAt ss k = false) : risingB ss = false := by
 rw [Bool.eq_false_iff]
 intro hr
 simp only [risingB,List.all_eq_true,List.mem_range] at hr
 rw [hr k hk] at h
 cases h
theorem less_irr : ∀ a : List UInt8,Op.bytesLess a a = false
 | [] => rfl
 | x :: a => by simp [Op.bytesLess,less_irr a]
theorem less_total : ∀ a b : List UInt8,Op.bytesLess a b = true ∨ a = b ∨ Op.bytesLess b a = true
 | [],[] => .inr (.inl rfl)
 | [],_ :: _ => .inl rfl
 | _ :: _,[] => .inr (.inr rfl)
 | x :: a,y :: b => by
  simp only [Op.bytesLess,Bool.or_eq_true,Bool.and_eq_true,decide_eq_true_eq,beq_iff_eq]
  rcases Nat.lt_trichotomy x.toNat y.toNat with h | h | h
  ·exact .inl (.inl h)
  ·have e : x = y := UInt8.toNat_inj.1 h
   subst e
   rcases less_total a b with h | h | h
   ·exact .inl (.inr ⟨rfl,h⟩)
   ·exact .inr (.inl (by rw [h]))
   ·exact .inr (.inr (.inr ⟨rfl,h⟩))
  ·exact .inr (.inr (.inl h))
theorem less_trans : ∀ a b c : List UInt8,Op.bytesLess a b = true -> Op.bytesLess b c = true -> Op.bytesLess a c = true
 | _,[],_,h,_ => by cases ‹List UInt8› <;> simp [Op.bytesLess] at h
 | _,_ :: _,[],_,h => by simp [Op.bytesLess] at h
 | [],_ :: _,_ :: _,_,_ => rfl
 | x :: a,y :: b,z :: c,h,k => by
  simp only [Op.bytesLess,Bool.or_eq_true,Bool.and_eq_true,decide_eq_true_eq,beq_iff_eq] at h k ⊢
  rcases h with h | ⟨rfl,h⟩
  ·rcases k with k | ⟨rfl,k⟩
   ·exact .inl (Nat.lt_trans h k)
   ·exact .inl h
  ·rcases k with k | ⟨rfl,k⟩
   ·exact .inl k
   ·exact .inr ⟨rfl,less_trans a b c h k⟩
theorem leq_not (a b : List UInt8) : (Op.bytesLess b a || b == a) = !Op.bytesLess a b := by
 rw [Bool.eq_iff_iff]
 simp only [Bool.or_eq_true,beq_iff_eq,Bool.not_eq_true']
 constructor
 ·rintro (h | rfl)
  ·rw [Bool.eq_false_iff]
   intro k
   have := less_trans _ _ _ h k
   rw [less_irr] at this
   cases this
  ·exact less_irr _
 ·intro h
  rcases less_total a b with k | k | k
  ·rw [k] at h;cases h
  ·exact .inr k.symm
  ·exact .inl k
theorem rising_any (v : Value) (ss : List ByteArray) (w : World) (h : StrsAt w v ss) :
  Calls Try.prog 57 #[v] w fun e w' => e = .returned (.bool (risingB ss)) ∧ Below w.heap.size w w' := by
 obtain ⟨hs,hm,h⟩ := h
 unfold maxLen at hm
 rcases h with ⟨a,cap,rfl,rfl⟩ | ⟨b,off,cap,rfl,hb,hc⟩
 ·go_enter Try.func57,Try.ntmps57
  go_wp2
  go_rounds 1
  go_ret
  exact ⟨ret_bool rfl,Below.refl _ _⟩
 ·go_enter Try.func57,Try.ntmps57
  go_wp2
  go_loopw [7] (fun i wr => ∃ k : Nat,k ≤ ss.length ∧ i = .int .i64 k ∧ Below w.heap.size w wr ∧ ∀ j,j < k -> upAt ss j = true) (fun i _ => ss.length - (intOf i).toNat)
  case atStart => exact ⟨0,by omega,rfl,Below.refl _ _,fun j hj => by omega⟩
  case round =>
   obtain ⟨k,hk,rfl,hbw,hq⟩ := hrel
   have HQ := Lib.hid hq
   clear hq
   by_cases hlt : k < ss.length
   ·have hcx := (hbw.cell (p := ⟨b,off + k,none⟩) hb).trans (hc k hlt)
    have hsx := hs _ (getD_mem hlt)
    obtain ⟨x,hx⟩ : ∃ x,x = stAt ss k := ⟨_,rfl⟩
    rw [← hx] at hcx hsx
    have HX := Lib.hid hx
    clear hx
    by_cases h0 : k = 0
    ·subst h0
     clear hc
     simp only [Nat.add_zero] at hcx
     rcases Bool.eq_false_or_eq_true (fineB x) with hf | hf
     ·go_wp2_with (go_at_call 56;refine (fine_any _ _ hsx).mono ?_;rintro e w1 ⟨rfl,hb1⟩)
      go_roundw
      case rel => exact ⟨1,by omega,by go_num,hbw.trans (hb1.mono hbw.size),fun j hj => by
       obtain rfl : j = 0 := by omega
       rw [up_zero,← HX.out];exact hf⟩
      case measure => simp [intOf];omega
     ·go_wp2_with (go_at_call 56;refine (fine_any _ _ hsx).mono ?_;rintro e w1 ⟨rfl,hb1⟩)
      go_ret
      exact ⟨ret_bool (rising_false hlt (by rw [up_zero,← HX.out];exact hf)).symm,hbw.trans (hb1.mono hbw.size)⟩
    ·obtain ⟨q,rfl⟩ : ∃ q,k = q + 1 := ⟨k - 1,by omega⟩
     have hcy := (hbw.cell (p := ⟨b,off + q,none⟩) hb).trans (hc q (by omega))
     obtain ⟨y,hy⟩ : ∃ y,y = stAt ss q := ⟨_,rfl⟩
     rw [← hy] at hcy
     have HY := Lib.hid hy
     clear hy hc
     rcases Bool.eq_false_or_eq_true (fineB x) with hf | hf
     ·rcases Bool.eq_false_or_eq_true (Op.bytesLess y.toList x.toList) with hl | hl
      ·have hl2 : (Op.bytesLess x.toList y.toList || x.toList == y.toList) = false := by rw [leq_not,hl];rfl
       go_wp2_with (go_at_call 56;refine (fine_any _ _ hsx).mono ?_;rintro e w1 ⟨rfl,hb1⟩;have hcz := (hb1.cell (p := ⟨b,off + q,none⟩) (Nat.lt_of_lt_of_le hb hbw.size)).trans hcy)
       go_roundw
       case rel => exact ⟨q + 1 + 1,by omega,by go_num,hbw.trans (hb1.mono hbw.size),fun j hj => by
        by_cases hjq : j = q + 1
        ·subst hjq;rw [up_succ,← HX.out,← HY.out,hf];exact hl
        ·exact HQ.out j (by omega)⟩
       case measure => simp [intOf];omega
      ·have hl2 : (Op.bytesLess x.toList y.toList || x.toList == y.toList) = true := by rw [leq_not,hl];rfl
       go_wp2_with (go_at_call 56;refine (fine_any _ _ hsx).mono ?_;rintro e w1 ⟨rfl,hb1⟩;have hcz := (hb1.cell (p := ⟨b,off + q,none⟩) (Nat.lt_of_lt_of_le hb hbw.size)).trans hcy)
       go_ret
       exact ⟨ret_bool (rising_false hlt (by rw [up_succ,← HX.out,← HY.out,hf];exact hl)).symm,hbw.trans (hb1.mono hbw.size)⟩
     ·go_wp2_with (go_at_call 56;refine (fine_any _ _ hsx).mono ?_;rintro e w1 ⟨rfl,hb1⟩)
      go_ret
      exact ⟨ret_bool (rising_false hlt (by rw [up_succ,← HX.out,hf];rfl)).symm,hbw.trans (hb1.mono hbw.size)⟩
   ·have : k = ss.length := by omega
    subst this
    clear hc
    go_wp2
    go_ret
    exact ⟨ret_bool (rising_true HQ.out).symm,hbw⟩
abbrev NodeF := Int -> Int -> ByteArray -> Option Ty5
mutual
def trT (f : NodeF) : Ty5 -> Ty5
 | .mk k n nm ls ks => match f k n nm with
  | some u => u
  | none => .mk k n nm ls (trL f ks)
def trL (f : NodeF) : List Ty5 -> List Ty5
 | [] => []
 | t :: r => trT f t :: trL f r
end
theorem trL_map (f : NodeF) : ∀ ks : List Ty5,trL f ks = ks.map (trT f)
 | [] => rfl
 | t :: r => by simp only [trL,List.map_cons,trL_map f r]
theorem nodesL_mem : ∀ {ks : List Ty5} {t : Ty5},t ∈ ks -> nodesT t ≤ nodesL ks
 | x :: r,t,h => by
  simp only [nodesL]
  rcases List.mem_cons.1 h with rfl | h
  ·omega
  ·have := nodesL_mem h
   omega
theorem nodes_one (t : Ty5) : 1 ≤ nodesT t := by
 cases t
 simp only [nodesT]
 omega
theorem nodesL_len : ∀ ks : List Ty5,ks.length ≤ nodesL ks
 | [] => Nat.le_refl _
 | t :: r => by
  have := nodes_one t
  have := nodesL_len r
  simp only [nodesL,List.length_cons]
  omega
abbrev Bd := ByteArray × Ty5
open Go.RowKit Pv
def bnD : Bd -> D
 | (bn,.mk k n nm ls ks) => .agg [.raw (.string bn),.raw (.int .i64 k),.raw (.int .i64 n),.raw (.string nm),.sl none 1 (ls.map strD),.sl none 5 (tysD ks)]
def bnsD (m : List Bd) : List D := m.map bnD
theorem bn_node (p : Bd) : ∃ k n nm L K,bnD p = .agg [.raw (.string p.1),.raw (.int .i64 k),.raw (.int .i64 n),.raw (.string nm),.sl none 1 L,.sl none 5 K] ∧ tyD p.2 = .agg [.raw (.int .i64 k),.raw (.int .i64 n),.raw (.string nm),.sl none 1 L,.sl none 5 K] ∧ (∀ m,idbL m L = true) ∧ ∀ m,idbL m K = true := by
 obtain ⟨bn,k,n,nm,ls,ks⟩ := p
 exact ⟨k,n,nm,_,_,rfl,rfl,fun m => pure_idbL m _ (strs_pure ls),fun m => pure_idbL m _ (tys_pure ks)⟩
theorem bn_pure (p : Bd) : pureD (bnD p) = some (bnD p) := by
 obtain ⟨bn,k,n,nm,ls,ks⟩ := p
 simp [bnD,pureD,pureL,strs_pure ls,tys_pure ks]
theorem bns_pure : ∀ m : List Bd,pureL (bnsD m) = some (bnsD m)
 | [] => rfl
 | p :: r => by
  have := bns_pure r
  unfold bnsD at this ⊢
  simp only [List.map_cons,pureL,bn_pure p,this]
theorem bns_len (m : List Bd) : (bnsD m).length = m.length := List.length_map ..
theorem bns_idb (m : List Bd) : ∀ k,idbL k (bnsD m) = true := fun k => pure_idbL k _ (bns_pure m)
theorem bns_at {m : List Bd} {i : Nat} (h : i < m.length) : ∃ p,m[i]? = some p ∧ (bnsD m)[i]? = some (bnD p) :=
 ⟨m[i],List.getElem?_eq_getElem h,by unfold bnsD;rw [List.getElem?_map,List.getElem?_eq_getElem h];rfl⟩
theorem tys_at {ks : List Ty5} {i : Nat} (h : i < ks.length) : ∃ t,ks[i]? = some t ∧ (tysD ks)[i]? = some (tyD t) :=
 ⟨ks[i],List.getElem?_eq_getElem h,by rw [tysD_map,List.getElem?_map,List.getElem?_eq_getElem h];rfl⟩
theorem tys_len (ks : List Ty5) : (tysD ks).length = ks.length := by simp [tysD_map]
theorem tys_idb (ks : List Ty5) : ∀ k,idbL k (tysD ks) = true := fun k => pure_idbL k _ (tys_pure ks)
theorem strs_at {ls : List ByteArray} {i : Nat} (h : i < ls.length) : ∃ s,ls[i]? = some s ∧ (ls.map strD)[i]? = some (strD s) :=
 ⟨ls[i],List.getElem?_eq_getElem h,by rw [List.getElem?_map,List.getElem?_eq_getElem h];rfl⟩
theorem strs_idb (ls : List ByteArray) : ∀ k,idbL k (ls.map strD) = true := fun k => pure_idbL k _ (strs_pure ls)
def okB (m : List Bd) : Prop := ∀ p ∈ m,p.1.size ≤ maxLen ∧ okT p.2
theorem strsD_bulk : ∀ ls : List ByteArray,bulkL (ls.map strD) = szS ls
 | [] => rfl
 | s :: r => by
  have := strsD_bulk r
  simp only [List.map_cons,strD,bulkL,bulkD,szS]
  omega
mutual
theorem tyD_bulk : ∀ t : Ty5,szT t ≤ bulkD (tyD t)
 | .mk k n nm ls ks => by
  have h1 := tysD_bulk ks
  have h2 := strsD_bulk ls
  simp only [szT,tyD,bulkD,bulkL]
  omega
theorem tysD_bulk : ∀ ks : List Ty5,szL ks ≤ bulkL (tysD ks)
 | [] => Nat.zero_le _
 | t :: r => by
  have h1 := tyD_bulk t
  have h2 := tysD_bulk r
  simp only [szL,tysD,bulkL]
  omega
end
theorem bn_bulk (p : Bd) : p.1.size + szT p.2 ≤ bulkD (bnD p) := by
 obtain ⟨bn,k,n,nm,ls,ks⟩ := p
 have h := tyD_bulk (.mk k n nm ls ks)
 simp only [tyD,bulkD,bulkL] at h
 simp only [bnD,bulkD,bulkL]
 omega
theorem bns_bulk {m : List Bd} {B : Nat} (h : bulkD (.sl none 6 (bnsD m)) ≤ B) : ∀ p ∈ m,p.1.size ≤ B ∧ szT p.2 ≤ B := fun p hp => by
 have h1 := bulk_mem (List.mem_map_of_mem (f := bnD) hp)
 have h2 := bn_bulk p
 simp only [bulkD] at h
 unfold bnsD at h
 omega
theorem cellsOf_bnd : Try.prog.cellsOf 64 = 6 := by kernel_rfl
theorem has_bnd {n : Nat} {d : D} (h : Has Try.prog n 64 d) : ∃ p : Bd,d = bnD p ∧ p.1.size ≤ maxLen ∧ okT p.2 := by
 obtain ⟨m,xs,rfl,rfl,hl,hx⟩ := h.struct Try.underlying64
 match xs,hl with
 | [x0,x1],_ =>
  obtain ⟨bn,rfl,hbn⟩ := (hx 0 _ x0 rfl rfl).str Try.underlying9
  obtain ⟨t,rfl,ht⟩ := has_ty _ (hx 1 _ x1 rfl rfl)
  obtain ⟨k,n,nm,ls,ks⟩ := t
  exact ⟨(bn,.mk k n nm ls ks),rfl,hbn,ht⟩
theorem bnds_of : ∀ {ds : List D},(∀ x ∈ ds,∃ p : Bd,x = bnD p ∧ p.1.size ≤ maxLen ∧ okT p.2) -> ∃ m : List Bd,ds = bnsD m ∧ okB m
 | [],_ => ⟨[],rfl,fun p h => by cases h⟩
 | x :: r,h => by
  obtain ⟨m,h1,h2⟩ := bnds_of (ds := r) fun y hy => h y (List.mem_cons_of_mem _ hy)
  obtain ⟨p,rfl,hp⟩ := h x (List.mem_cons_self ..)
  refine ⟨p :: m,by rw [h1];rfl,fun q hq => ?_⟩
  rcases List.mem_cons.1 hq with rfl | hq
  ·exact hp
  ·exact h2 q hq
theorem has_bnds {n : Nat} {d : D} (h : Has Try.prog n 36 d) : ∃ m : List Bd,d = .sl none 6 (bnsD m) ∧ m.length ≤ maxLen ∧ okB m := by
 obtain ⟨m,ds,_,rfl,hl,hds⟩ := h.slice Try.underlying36
 obtain ⟨bs,rfl,hbs⟩ := bnds_of fun x hx => has_bnd (hds x hx)
 rw [cellsOf_bnd]
 exact ⟨bs,rfl,by simpa [bns_len] using hl,hbs⟩
theorem rn_i64 {n : Int} (h : (Lit.int .i64 n).wf = true) : -9223372036854775808 ≤ n ∧ n ≤ 9223372036854775807 := bounds_i64 h
theorem rn_part {H : Type} {d : DataW H} {l : List (DataW H)} (h : d ∈ l) : Rows.uptoBulk d ≤ Rows.uptoBulkAll l := by
 induction l with
 | nil => cases h
 | cons x r ih =>
  simp only [Rows.uptoBulkAll]
  cases List.mem_cons.1 h with
  | inl e => subst e;omega
  | inr e => have := ih e;omega
inductive Ex7 where
  | mk (k n : Int) (nm : ByteArray) (hs : Bool) (ts : List Ty5) (ls : List ByteArray) (ks : List Ex7)
mutual
def exD : Ex7 -> D
 | .mk k n nm hs ts ls ks => .agg [.raw (.int .i64 k),.raw (.int .i64 n),.raw (.string nm),.raw (.bool hs),.sl none 5 (tysD ts),.sl none 1 (ls.map strD),.sl none 7 (exsD ks)]
def exsD : List Ex7 -> List D
 | [] => []
 | e :: r => exD e :: exsD r
end
theorem exsD_map : ∀ ks : List Ex7,exsD ks = ks.map exD
 | [] => rfl
 | t :: r => by simp [exsD,exsD_map r]
mutual
theorem ex_pure : ∀ e : Ex7,pureD (exD e) = some (exD e)
 | .mk k n nm hs ts ls ks => by simp [exD,pureD,pureL,strs_pure ls,tys_pure ts,exs_pure ks]
theorem exs_pure : ∀ ks : List Ex7,pureL (exsD ks) = some (exsD ks)
 | [] => rfl
 | t :: r => by simp [exsD,pureL,ex_pure t,exs_pure r]
end
theorem exs_len (ks : List Ex7) : (exsD ks).length = ks.length := by simp [exsD_map]
theorem exs_idb (ks : List Ex7) : ∀ k,idbL k (exsD ks) = true := fun k => pure_idbL k _ (exs_pure ks)
theorem exs_at {ks : List Ex7} {i : Nat} (h : i < ks.length) : ∃ t,ks[i]? = some t ∧ (exsD ks)[i]? = some (exD t) :=
 ⟨ks[i],List.getElem?_eq_getElem h,by rw [exsD_map,List.getElem?_map,List.getElem?_eq_getElem h];rfl⟩
theorem ex_node (e : Ex7) : ∃ k n nm hs T L K,exD e = .agg [.raw (.int .i64 k),.raw (.int .i64 n),.raw (.string nm),.raw (.bool hs),.sl none 5 T,.sl none 1 L,.sl none 7 K] ∧ (∀ m,idbL m T = true) ∧ (∀ m,idbL m L = true) ∧ ∀ m,idbL m K = true := by
 obtain ⟨k,n,nm,hs,ts,ls,ks⟩ := e
 exact ⟨k,n,nm,hs,_,_,_,rfl,fun m => tys_idb ts m,fun m => strs_idb ls m,fun m => exs_idb ks m⟩
mutual
def szE : Ex7 -> Nat
 | .mk _ _ nm _ ts ls ks => 1 + nm.size + szL ts + szS ls + szEL ks
def szEL : List Ex7 -> Nat
 | [] => 0
 | e :: r => szE e + szEL r
end
theorem szE_pos (e : Ex7) : 0 < szE e := by
 obtain ⟨k,n,nm,hs,ts,ls,ks⟩ := e
 simp only [szE]
 omega
theorem szEL_mem : ∀ {ks : List Ex7} {t : Ex7},t ∈ ks -> szE t ≤ szEL ks
 | x :: r,t,h => by
  simp only [szEL]
  rcases List.mem_cons.1 h with rfl | h
  ·omega
  ·have := szEL_mem h
   omega
theorem ex_ind {P : Ex7 -> Prop} (h : ∀ k n nm hs ts ls ks,(∀ t ∈ ks,P t) -> P (.mk k n nm hs ts ls ks)) : ∀ e : Ex7,P e := by
 intro e
 induction hz : szE e using Nat.strongRecOn generalizing e with
 | ind z ih =>
  obtain ⟨k,n,nm,hs,ts,ls,ks⟩ := e
  refine h k n nm hs ts ls ks fun t ht => ih (szE t) ?_ t rfl
  have := szEL_mem ht
  rw [← hz]
  simp only [szE]
  omega
def okE : Ex7 -> Prop
 | .mk _ _ nm _ ts ls ks => nm.size ≤ maxLen ∧ okT.okL ts ∧ (∀ s ∈ ls,s.size ≤ maxLen) ∧ okL ks
where okL : List Ex7 -> Prop
 | [] => True
 | t :: r => okE t ∧ okL r
theorem okEL_get : ∀ {ks : List Ex7},okE.okL ks -> ∀ t ∈ ks,okE t
 | [],_,t,h => by cases h
 | a :: r,h,t,ht => by
  rcases List.mem_cons.1 ht with rfl | ht
  ·exact h.1
  ·exact okEL_get h.2 t ht
mutual
theorem exD_bulk : ∀ e : Ex7,szE e ≤ bulkD (exD e)
 | .mk k n nm hs ts ls ks => by
  have h1 := tysD_bulk ts
  have h2 := strsD_bulk ls
  have h3 := exsD_bulk ks
  simp only [szE,exD,bulkD,bulkL]
  omega
theorem exsD_bulk : ∀ ks : List Ex7,szEL ks ≤ bulkL (exsD ks)
 | [] => Nat.zero_le _
 | t :: r => by
  have h1 := exD_bulk t
  have h2 := exsD_bulk r
  simp only [szEL,exsD,bulkL]
  omega
end
theorem cellsOf_exp : Try.prog.cellsOf 26 = 7 := by kernel_rfl
theorem exs_of : ∀ {ds : List D},(∀ x ∈ ds,∃ t : Ex7,x = exD t ∧ okE t) -> ∃ ks : List Ex7,ds = exsD ks ∧ okE.okL ks
 | [],_ => ⟨[],rfl,trivial⟩
 | x :: r,h => by
  obtain ⟨ks,h1,h2⟩ := exs_of (ds := r) fun y hy => h y (List.mem_cons_of_mem _ hy)
  obtain ⟨t,rfl,ht⟩ := h x (List.mem_cons_self ..)
  exact ⟨t :: ks,by simp [exsD,h1],ht,h2⟩
theorem has_ex : ∀ (n : Nat) {d : D},Has Try.prog n 26 d -> ∃ e : Ex7,d = exD e ∧ okE e := by
 intro n
 induction n using Nat.strongRecOn with
 | _ n ih =>
  intro d h
  obtain ⟨m,xs,rfl,rfl,hl,hx⟩ := h.struct Try.underlying26
  match xs,hl with
  | [x0,x1,x2,x3,x4,x5,x6],_ =>
   obtain ⟨k,rfl,_⟩ := (hx 0 _ x0 rfl rfl).int Try.underlying3
   obtain ⟨a,rfl,_⟩ := (hx 1 _ x1 rfl rfl).int Try.underlying3
   obtain ⟨nm,rfl,hnm⟩ := (hx 2 _ x2 rfl rfl).str Try.underlying9
   obtain ⟨hs,rfl⟩ := (hx 3 _ x3 rfl rfl).bool Try.underlying4
   obtain ⟨ts,rfl,hts,_⟩ := has_tys (hx 4 _ x4 rfl rfl)
   obtain ⟨ls,rfl,_,hls⟩ := has_strs (hx 5 _ x5 rfl rfl)
   obtain ⟨m',ds,e,rfl,_,hds⟩ := (hx 6 _ x6 rfl rfl).slice Try.underlying24
   obtain ⟨ks,rfl,hks⟩ := exs_of fun x hx' => ih m' (by omega) (hds x hx')
   rw [cellsOf_exp]
   exact ⟨.mk k a nm hs ts ls ks,rfl,hnm,hts,hls,hks⟩
structure Sg where
 nm : ByteArray
 bs : List Bd
 ps : List Bd
 rs : Ty5
structure Df where
 sg : Sg
 bd : Ex7
def sgD : Sg -> D
 | ⟨nm,bs,ps,.mk k n tn ls ks⟩ => .agg [.raw (.string nm),.sl none 6 (bnsD bs),.sl none 6 (bnsD ps),.raw (.int .i64 k),.raw (.int .i64 n),.raw (.string tn),.sl none 1 (ls.map strD),.sl none 5 (tysD ks)]
def dfD : Df -> D
 | ⟨⟨nm,bs,ps,.mk k n tn ls ks⟩,.mk ek en em eh et el ek'⟩ => .agg [.raw (.string nm),.sl none 6 (bnsD bs),.sl none 6 (bnsD ps),.raw (.int .i64 k),.raw (.int .i64 n),.raw (.string tn),.sl none 1 (ls.map strD),.sl none 5 (tysD ks),
  .raw (.int .i64 ek),.raw (.int .i64 en),.raw (.string em),.raw (.bool eh),.sl none 5 (tysD et),.sl none 1 (el.map strD),.sl none 7 (exsD ek')]
theorem sg_pure (s : Sg) : pureD (sgD s) = some (sgD s) := by
 obtain ⟨nm,bs,ps,k,n,tn,ls,ks⟩ := s
 simp [sgD,pureD,pureL,bns_pure,strs_pure,tys_pure]
theorem df_pure (d : Df) : pureD (dfD d) = some (dfD d) := by
 obtain ⟨⟨nm,bs,ps,k,n,tn,ls,ks⟩,ek,en,em,eh,et,el,ek'⟩ := d
 simp [dfD,pureD,pureL,bns_pure,strs_pure,tys_pure,exs_pure]
def okS (s : Sg) : Prop := s.nm.size ≤ maxLen ∧ okB s.bs ∧ okB s.ps ∧ okT s.rs
def okD (d : Df) : Prop := okS d.sg ∧ okE d.bd
theorem has_sg {n : Nat} {d : D} (h : Has Try.prog n 40 d) : ∃ s : Sg,d = sgD s ∧ okS s := by
 obtain ⟨m,xs,rfl,rfl,hl,hx⟩ := h.struct Try.underlying40
 match xs,hl with
 | [x0,x1,x2,x3],_ =>
  obtain ⟨nm,rfl,hnm⟩ := (hx 0 _ x0 rfl rfl).str Try.underlying9
  obtain ⟨bs,rfl,_,hbs⟩ := has_bnds (hx 1 _ x1 rfl rfl)
  obtain ⟨ps,rfl,_,hps⟩ := has_bnds (hx 2 _ x2 rfl rfl)
  obtain ⟨t,rfl,ht⟩ := has_ty _ (hx 3 _ x3 rfl rfl)
  obtain ⟨k,n,tn,ls,ks⟩ := t
  exact ⟨⟨nm,bs,ps,.mk k n tn ls ks⟩,rfl,hnm,hbs,hps,ht⟩
theorem has_df {n : Nat} {d : D} (h : Has Try.prog n 42 d) : ∃ s : Df,d = dfD s ∧ okD s := by
 obtain ⟨m,xs,rfl,rfl,hl,hx⟩ := h.struct Try.underlying42
 match xs,hl with
 | [x0,x1],_ =>
  obtain ⟨s,rfl,hs⟩ := has_sg (hx 0 _ x0 rfl rfl)
  obtain ⟨e,rfl,he⟩ := has_ex _ (hx 1 _ x1 rfl rfl)
  obtain ⟨nm,bs,ps,k,n,tn,ls,ks⟩ := s
  obtain ⟨ek,en,em,eh,et,el,ek'⟩ := e
  exact ⟨⟨⟨nm,bs,ps,.mk k n tn ls ks⟩,.mk ek en em eh et el ek'⟩,rfl,hs,he⟩
open Go.RowKit Go.Deep Go.Sort
theorem rmuch_any : ∀ (f : Nat) (t : Ty5) (v0 v1 v2 v3 v4 : Value) (w : World),szT t ≤ f -> szT t ≤ 1048576 -> TyIn w t v0 v1 v2 v3 v4 ->
  Calls Try.prog 31 #[.agg #[v0,v1,v2,v3,v4]] w fun e w' => e = .returned (.int .i64 (much t)) ∧ Below w.heap.size w w'
 | 0,t,_,_,_,_,_,_,h,_,_ => absurd (szT_pos t) (by omega)
 | f + 1,.mk k n nm ls ks,v0,v1,v2,v3,v4,w,hz,hn,hT => by
  obtain ⟨rfl,rfl,⟨rfl,hm⟩,hl,hk,h4⟩ := hT
  unfold maxLen at hk hm
  obtain ⟨hls,hlm,hlf⟩ := hl
  unfold maxLen at hlm
  have hsum : nm.size ≤ 1048576 ∧ ls.length ≤ 1048576 ∧ ∀ j,eighths (ls.take j) ≤ 1048576 := by
   have h1 := eighths_le ls
   have h2 := eighths_take ls
   simp only [szT] at hn
   exact ⟨by omega,by omega,fun j => by have := h2 j;omega⟩
  obtain ⟨hs1,hs2,hs3⟩ := hsum
  obtain ⟨a3,cap3,e3⟩ : ∃ a cap,v3 = .slice a ls.length cap := by
   rcases hlf with ⟨a,cap,rfl,rfl⟩ | ⟨b,off,cap,rfl,_⟩
   ·exact ⟨a,cap,rfl⟩
   ·exact ⟨_,cap,rfl⟩
  obtain ⟨a4,cap4,e4⟩ : ∃ a cap,v4 = .slice a ks.length cap := by
   rcases h4 with ⟨a,cap,rfl,rfl⟩ | ⟨b,off,cap,rfl,_⟩
   ·exact ⟨a,cap,rfl⟩
   ·exact ⟨_,cap,rfl⟩
  subst e3 e4
  have IH := Asd.mk (rmuch_any f)
  have HZ := Asd.mk hz
  have HN := Asd.mk hn
  have HLF := Asd.mk hlf
  have HLS := Asd.mk hls
  have H4 := Asd.mk h4
  have HE := Asd.mk hs3
  clear hz hn hlf hls h4 hs3
  have Z : ∀ (i : Nat) (v : Value),(#[.int .i64 k,.int .i64 n,.string nm,.slice a3 ls.length cap3,.slice a4 ks.length cap4] : Array Value)[i]? = some v -> (w.alloc (.cells #[.int .i64 k,.int .i64 n,.string nm,.slice a3 ls.length cap3,.slice a4 ks.length cap4] 38)).cell? ⟨w.heap.size,i,none⟩ = some v := fun i v h => alloc_at w #[.int .i64 k,.int .i64 n,.string nm,.slice a3 ls.length cap3,.slice a4 ks.length cap4] 38 i v h
  have B0 : Below w.heap.size w (w.alloc (.cells #[.int .i64 k,.int .i64 n,.string nm,.slice a3 ls.length cap3,.slice a4 ks.length cap4] 38)) := (Below.refl _ _).alloc (Nat.le_refl _) _
  have Z3 := Asd.mk (Z 3 _ rfl)
  have Z4 := Asd.mk (Z 4 _ rfl)
  have B1 := Asd.mk B0
  clear Z B0
  go_enter Try.func31,Try.ntmps31
  go_wp2
  generalize w.alloc (.cells #[.int .i64 k,.int .i64 n,.string nm,.slice a3 ls.length cap3,.slice a4 ks.length cap4] 38) = W at Z3 Z4 B1 ⊢
  go_loopw [3,4] (fun m i wr => ∃ j : Nat,j ≤ ls.length ∧ j ≤ 1000 ∧ i = .int .i64 j ∧ m = .int .i64 ((1 + nm.size / 8 + ls.length + eighths (ls.take j) : Nat) : Int) ∧ Below W.heap.size W wr) (fun _ i _ => ls.length - (intOf i).toNat)
  case atStart => exact ⟨0,by omega,by omega,rfl,by simp only [List.take_zero,eighths];go_num,Below.refl _ _⟩
  case round =>
   obtain ⟨j,hj,hj2,rfl,rfl,hb⟩ := hrel
   have z3 := cell_below hb Z3.out
   by_cases hlt : j < ls.length ∧ j < 1000
   ·obtain ⟨hlt,hlt2⟩ := hlt
    rcases HLF.out with ⟨_,_,_,e⟩ | ⟨b,off,cap,e,hbz,hc⟩
    ·rw [e] at hlt
     exact absurd hlt (Nat.not_lt_zero _)
    obtain ⟨rfl,rfl⟩ : a3 = some ⟨b,off,none⟩ ∧ cap3 = cap := by simpa using e
    have hcx := ((B1.out.trans (hb.mono B1.out.size)).cell (p := ⟨b,off + j,none⟩) hbz).trans (hc j hlt)
    have hsx := HLS.out _ (by rw [stAt_get hlt];exact List.getElem_mem hlt : stAt ls j ∈ ls)
    unfold maxLen at hsx
    have HS := Asd.mk (eighths_step hlt)
    have HX := HE.out (j + 1)
    clear e hc
    generalize hx : stAt ls j = x at hcx hsx HS
    have hx := Asd.mk hx
    go_wp2
    go_roundw
    case rel => exact ⟨j + 1,by omega,by omega,by go_num,i64_le (by rw [HS.out];omega) (by omega) (by omega),hb⟩
    case measure => simp [intOf];omega
   ·have hm8 : eighths (ls.take j) = eighths (ls.take 1000) := by
     by_cases h : j = 1000
     ·rw [h]
     ·rw [List.take_of_length_le (by omega),List.take_of_length_le (by omega)]
    have hA : ((1 + nm.size / 8 + ls.length + eighths (ls.take j) : Nat) : Int) = (muchA nm ls : Nat) := by rw [hm8];rfl
    have hA2 : muchA nm ls ≤ 1 + nm.size + szS ls := by have := eighths_take ls 1000;unfold muchA;omega
    rw [hA]
    clear hA hm8
    have z4 := Asd.mk Z4.out
    have HA2 := Asd.mk hA2
    clear hA2
    rcases (show ¬ j < ls.length ∨ (j < ls.length ∧ ¬ j < 1000) by omega) with h | ⟨h,h'⟩
    all_goals
     go_wp2
     have HB := Asd.mk hb
     clear hb z3
     go_loopw [3,5] (fun m i w3 => ∃ q nn : Nat,q ≤ ks.length ∧ i = .int .i64 q ∧ m = .int .i64 (nn : Int) ∧ muchL nn (ks.drop q) = much (.mk k n nm ls ks) ∧ nn ≤ 1 + nm.size + szS ls + szL (ks.take q) ∧ Below wr.heap.size wr w3) (fun _ i _ => ks.length - (intOf i).toNat)
     case atStart => exact ⟨0,muchA nm ls,by omega,rfl,rfl,by simp [much],by have := HA2.out;omega,Below.refl _ _⟩
     case round =>
      obtain ⟨q,nn,hq,rfl,rfl,hM,hnn,hb3⟩ := hrel
      have y4 := cell_below hb3 (cell_below HB.out z4.out)
      have HM := Asd.mk hM
      have HNN := Asd.mk hnn
      clear hM hnn
      by_cases h3 : nn < 3000
      ·by_cases hlt : q < ks.length
       ·rcases H4.out with ⟨_,_,_,e⟩ | ⟨b,off,cap,e,hr⟩
        ·rw [e] at hlt
         exact absurd hlt (Nat.not_lt_zero _)
        obtain ⟨rfl,rfl⟩ : a4 = some ⟨b,off,none⟩ ∧ cap4 = cap := by simpa using e
        obtain ⟨x0,x1,x2,x3,x4,c0,c1,c2,c3,c4,ht⟩ := (((hr.mono B1.out).mono HB.out).mono hb3).at hlt
        have HT := Asd.mk ht
        have HB3 := Asd.mk hb3
        have hkid := szL_step hlt
        have hmk := much_le (kAt ks q)
        have HS : Asd (szT (kAt ks q) ≤ f ∧ szT (kAt ks q) ≤ 1048576 ∧ nn + much (kAt ks q) ≤ 1048576 ∧ nn + much (kAt ks q) ≤ 1 + nm.size + szS ls + szL (ks.take (q + 1))) := ⟨by
         have h1 := HZ.out
         have h2 := HN.out
         have h5 := HNN.out
         have h6 := szL_take hlt
         simp only [szT] at h1 h2
         omega⟩
        clear ht hb3 hr e hkid hmk
        go_wp2_with (go_at_call 31;refine (IH.out (kAt ks q) _ _ _ _ _ _ HS.out.1 HS.out.2.1 HT.out).mono ?_;rintro e w4 ⟨rfl,hb4⟩)
        go_roundw
        case rel => exact ⟨q + 1,nn + much (kAt ks q),by omega,by go_num,i64_le (by omega) (by omega) (by have := HS.out.2.2.1;omega),by rw [← muchL_drop hlt h3];exact HM.out,HS.out.2.2.2,HB3.out.trans (hb4.mono HB3.out.size)⟩
        case measure => simp [intOf];omega
       ·have hqe : q = ks.length := by omega
        subst hqe
        go_wp2
        go_ret
        exact ⟨retI (by have e := HM.out;rw [List.drop_length] at e;rw [← e];rfl),B1.out.trans ((HB.out.trans (hb3.mono HB.out.size)).mono B1.out.size)⟩
      ·have e := muchL_stop (ks.drop q) h3
       rcases (show q < ks.length ∨ ¬ q < ks.length by omega) with hlt | hlt
       all_goals
        go_wp2
        go_ret
        exact ⟨retI (by rw [← HM.out,e]),B1.out.trans ((HB.out.trans (hb3.mono HB.out.size)).mono B1.out.size)⟩
theorem rsameS_any (v u : Value) (ss ts : List ByteArray) (w : World) (h : StrsAt w v ss) (g : StrsAt w u ts) :
  Calls Try.prog 19 #[v,u] w fun e w' => e = .returned (.bool (eqL ss ts)) ∧ Below w.heap.size w w' := by
 obtain ⟨_,hm,h⟩ := h
 obtain ⟨_,gm,g⟩ := g
 unfold maxLen at hm gm
 by_cases hl : ss.length = ts.length
 ·rcases h with ⟨a,cap,rfl,rfl⟩ | ⟨b,off,cap,rfl,hb,hc⟩
  ·obtain rfl : ts = [] := List.length_eq_zero_iff.1 (by simpa using hl.symm)
   rcases g with ⟨a',cap',rfl,_⟩ | ⟨b',off',cap',rfl,gb,gc⟩
   all_goals
    go_enter Try.func19,Try.ntmps19
    go_wp2
    go_rounds 1
    go_ret
    exact ⟨retB rfl,Below.refl _ _⟩
  ·rcases g with ⟨a',cap',rfl,rfl⟩ | ⟨b',off',cap',rfl,gb,gc⟩
   ·obtain rfl : ss = [] := List.length_eq_zero_iff.1 (by simpa using hl)
    go_enter Try.func19,Try.ntmps19
    go_wp2
    go_rounds 1
    go_ret
    exact ⟨retB rfl,Below.refl _ _⟩
   ·rw [← hl] at gc ⊢
    have HL := Asd.mk hl
    clear hl
    go_enter Try.func19,Try.ntmps19
    go_wp2
    go_loopw [5] (fun i wr => ∃ k : Nat,k ≤ ss.length ∧ i = .int .i64 k ∧ Below w.heap.size w wr ∧ ∀ j,j < k -> eqS (stAt ss j) (stAt ts j) = true) (fun i _ => ss.length - (intOf i).toNat)
    case atStart => exact ⟨0,by omega,rfl,Below.refl _ _,fun j hj => by omega⟩
    case round =>
     obtain ⟨k,hk,rfl,hbw,hq⟩ := hrel
     have HQ := Asd.mk hq
     clear hq
     by_cases hlt : k < ss.length
     ·have hcx := (hbw.cell (p := ⟨b,off + k,none⟩) hb).trans (hc k hlt)
      have hcy := (hbw.cell (p := ⟨b',off' + k,none⟩) gb).trans (gc k hlt)
      obtain ⟨x,hx⟩ : ∃ x,x = stAt ss k := ⟨_,rfl⟩
      obtain ⟨y,hy⟩ : ∃ y,y = stAt ts k := ⟨_,rfl⟩
      rw [← hx] at hcx
      rw [← hy] at hcy
      have HX := Asd.mk hx
      have HY := Asd.mk hy
      clear hx hy hc gc
      have kx := cell_regrown hcx
      have ky := cell_regrown hcy
      rcases Bool.eq_false_or_eq_true (x.toList == y.toList) with he | he
      ·go_wp2_with fail
       refine wp_region_quiet_below (by kernel_rfl) (by kernel_rfl) ?_
       repeat (go_big_quiet_step (fail))
       refine wpQuiet_nil ?_
       intro _ hw'
       obtain ⟨⟨dq,osq⟩,hw''⟩ := hw'
       obtain ⟨W2,hW2⟩ : ∃ W2,W2 = grow (redrawn wr dq) osq := ⟨_,rfl⟩
       have hb2 : Below wr.heap.size wr W2 := by rw [hW2];exact below_regrown wr dq osq
       subst hw''
       rw [← hW2]
       clear hW2 kx ky
       go_wp2
       go_roundw
       case rel => exact ⟨k + 1,by omega,by go_num,hbw.trans (hb2.mono hbw.size),fun j hj => by
        by_cases hjk : j = k
        ·subst hjk;rw [← HX.out,← HY.out];exact he
        ·exact HQ.out j (by omega)⟩
       case measure => simp [intOf];omega
      ·go_wp2_with fail
       refine wp_region_quiet_below (by kernel_rfl) (by kernel_rfl) ?_
       repeat (go_big_quiet_step (fail))
       refine wpQuiet_nil ?_
       intro _ hw'
       obtain ⟨⟨dq,osq⟩,hw''⟩ := hw'
       obtain ⟨W2,hW2⟩ : ∃ W2,W2 = grow (redrawn wr dq) osq := ⟨_,rfl⟩
       have hb2 : Below wr.heap.size wr W2 := by rw [hW2];exact below_regrown wr dq osq
       subst hw''
       rw [← hW2]
       clear hW2 kx ky
       go_wp2
       go_ret
       exact ⟨retB (eqL_differ (j := k) (by rw [← HX.out,← HY.out];exact he)).symm,hbw.trans (hb2.mono hbw.size)⟩
     ·have : k = ss.length := by omega
      subst this
      clear hc gc
      go_wp2
      go_ret
      exact ⟨retB (eqL_all HL.out HQ.out).symm,hbw⟩
 ·rw [eqL_len hl]
  rcases h with ⟨a,cap,rfl,rfl⟩ | ⟨b,off,cap,rfl,hb,hc⟩ <;> rcases g with ⟨a',cap',rfl,rfl⟩ | ⟨b',off',cap',rfl,gb,gc⟩
  ·exact absurd rfl hl
  all_goals
   try (simp only [List.length_nil] at hl)
   go_enter Try.func19,Try.ntmps19
   go_wp2
   all_goals (first | go_ret | skip)
   all_goals exact ⟨retB rfl,Below.refl _ _⟩
theorem two_a (w : World) (A B : Array Value) (t : TypeId) (i : Nat) (v : Value) (h : A[i]? = some v) : ((w.alloc (.cells A t)).alloc (.cells B t)).cell? ⟨w.heap.size,i,none⟩ = some v :=
 cell_below ((Below.refl _ _).alloc (Nat.le_refl _) _) (alloc_at _ _ _ _ _ h)
theorem two_b (w : World) (A B : Array Value) (t : TypeId) (i : Nat) (v : Value) (h : B[i]? = some v) : ((w.alloc (.cells A t)).alloc (.cells B t)).cell? ⟨w.heap.size + 1,i,none⟩ = some v := by
 have := alloc_at (w.alloc (.cells A t)) B t i v h
 have e : (w.alloc (.cells A t)).heap.size = w.heap.size + 1 := by simp [go_sem]
 rw [e] at this
 exact this
theorem two_below (w : World) (o o' : Obj) : Below w.heap.size w ((w.alloc o).alloc o') :=
 ((Below.refl _ _).alloc (Nat.le_refl _) _).alloc (Nat.le_of_lt (alloc_lt _ _)) _
def KidsAt (w : World) (v : Value) (ks : List Ty5) : Prop := (∃ a cap,v = .slice a 0 cap ∧ ks = []) ∨ ∃ b off cap,v = .slice (some ⟨b,off,none⟩) ks.length cap ∧ RowIn w b off ks
theorem KidsAt.form {w : World} {v : Value} {ks : List Ty5} (h : KidsAt w v ks) : ∃ a cap,v = .slice a ks.length cap := by
 rcases h with ⟨a,cap,rfl,rfl⟩ | ⟨b,off,cap,rfl,_⟩
 ·exact ⟨a,cap,rfl⟩
 ·exact ⟨_,cap,rfl⟩
theorem rsameTy_any : ∀ (f : Nat) (t t' : Ty5) (v0 v1 v2 v3 v4 u0 u1 u2 u3 u4 : Value) (w : World),szT t ≤ f -> TyIn w t v0 v1 v2 v3 v4 -> TyIn w t' u0 u1 u2 u3 u4 ->
  Calls Try.prog 52 #[.agg #[v0,v1,v2,v3,v4],.agg #[u0,u1,u2,u3,u4]] w fun e w' => e = .returned (.bool (sameT t t')) ∧ Below w.heap.size w w'
 | 0,t,_,_,_,_,_,_,_,_,_,_,_,_,h,_,_ => absurd (szT_pos t) (by omega)
 | f + 1,.mk k n nm ls ks,.mk k' n' nm' ls' ks',v0,v1,v2,v3,v4,u0,u1,u2,u3,u4,w,hz,hT,hU => by
  obtain ⟨rfl,rfl,⟨rfl,hm⟩,hl,hk,h4⟩ := hT
  obtain ⟨rfl,rfl,⟨rfl,hm'⟩,hl',hk',h4'⟩ := hU
  unfold maxLen at hk hk'
  obtain ⟨a,cap,e4⟩ := KidsAt.form h4
  obtain ⟨a',cap',e4'⟩ := KidsAt.form h4'
  by_cases q0 : k = k'
  case neg =>
   subst e4 e4'
   rw [show sameT (.mk k n nm ls ks) (.mk k' n' nm' ls' ks') = false by simp [sameT,q0]]
   clear h4 h4' hl hl'
   go_enter Try.func52,Try.ntmps52
   go_wp2
   go_ret
   exact ⟨rfl,by go_grown⟩
  subst q0
  by_cases q1 : n = n'
  case neg =>
   subst e4 e4'
   rw [show sameT (.mk k n nm ls ks) (.mk k n' nm' ls' ks') = false by simp [sameT,q1]]
   clear h4 h4' hl hl'
   go_enter Try.func52,Try.ntmps52
   go_wp2
   go_ret
   exact ⟨rfl,by go_grown⟩
  subst q1
  rcases Bool.eq_false_or_eq_true (nm.toList == nm'.toList) with q2 | q2
  case inr =>
   subst e4 e4'
   rw [show sameT (.mk k n nm ls ks) (.mk k n nm' ls' ks') = false by simp [sameT,eqS,q2]]
   clear h4 h4' hl hl'
   go_enter Try.func52,Try.ntmps52
   go_wp2
   go_ret
   exact ⟨rfl,by go_grown⟩
  have C := Asd.mk (fun W (hB : Below w.heap.size w W) => rsameS_any v3 u3 ls ls' W (hl.mono hB) (hl'.mono hB))
  rcases Bool.eq_false_or_eq_true (eqL ls ls') with q3 | q3
  case inr =>
   subst e4 e4'
   rw [show sameT (.mk k n nm ls ks) (.mk k n nm' ls' ks') = false by simp [sameT,q3]]
   clear h4 h4' hl hl'
   go_enter Try.func52,Try.ntmps52
   go_wp2_with (go_at_call 19;refine (C.out _ (two_below _ _ _)).mono ?_;rintro e w2 ⟨rfl,hb2⟩;rw [q3])
   go_ret
   exact ⟨rfl,(two_below w _ _).trans (hb2.mono (two_below w _ _).size)⟩
  by_cases q4 : ks.length = ks'.length
  case neg =>
   subst e4 e4'
   rw [show sameT (.mk k n nm ls ks) (.mk k n nm' ls' ks') = false by simp [sameT,sameL_len q4]]
   clear h4 h4' hl hl'
   go_enter Try.func52,Try.ntmps52
   have Z1 := two_a w #[.int .i64 k,.int .i64 n,.string nm,v3,.slice a ks.length cap] #[.int .i64 k,.int .i64 n,.string nm',u3,.slice a' ks'.length cap'] 38 4 _ rfl
   have Z2 := two_b w #[.int .i64 k,.int .i64 n,.string nm,v3,.slice a ks.length cap] #[.int .i64 k,.int .i64 n,.string nm',u3,.slice a' ks'.length cap'] 38 4 _ rfl
   have Z1 := Asd.mk Z1
   have Z2 := Asd.mk Z2
   go_wp2_with (go_at_call 19;refine (C.out _ (two_below _ _ _)).mono ?_;rintro e w2 ⟨rfl,hb2⟩;rw [q3];have z1 := cell_below hb2 Z1.out;have z2 := cell_below hb2 Z2.out)
   go_ret
   exact ⟨rfl,(two_below w _ _).trans (hb2.mono (two_below w _ _).size)⟩
  rw [show sameT (.mk k n nm ls ks) (.mk k n nm' ls' ks') = sameL ks ks' by simp [sameT,eqS,q2,q3]]
  by_cases q5 : ks = []
  case pos =>
   subst q5
   obtain rfl : ks' = [] := List.length_eq_zero_iff.1 (by simpa using q4.symm)
   subst e4 e4'
   clear h4 h4' hl hl'
   go_enter Try.func52,Try.ntmps52
   have Z1 := two_a w #[.int .i64 k,.int .i64 n,.string nm,v3,.slice a 0 cap] #[.int .i64 k,.int .i64 n,.string nm',u3,.slice a' 0 cap'] 38 4 _ rfl
   have Z2 := two_b w #[.int .i64 k,.int .i64 n,.string nm,v3,.slice a 0 cap] #[.int .i64 k,.int .i64 n,.string nm',u3,.slice a' 0 cap'] 38 4 _ rfl
   have Z1 := Asd.mk Z1
   have Z2 := Asd.mk Z2
   go_wp2_with (go_at_call 19;refine (C.out _ (two_below _ _ _)).mono ?_;rintro e w2 ⟨rfl,hb2⟩;rw [q3];have z1 := cell_below hb2 Z1.out;have z2 := cell_below hb2 Z2.out)
   go_rounds 1
   go_ret
   exact ⟨rfl,(two_below w _ _).trans (hb2.mono (two_below w _ _).size)⟩
  have q6 : ks' ≠ [] := by
   rintro rfl
   exact q5 (List.length_eq_zero_iff.1 q4)
  rcases h4 with ⟨_,_,_,h4⟩ | ⟨b,off,cap,rfl,hr⟩
  ·exact absurd h4 q5
  rcases h4' with ⟨_,_,_,h4'⟩ | ⟨b',off',cap',rfl,hr'⟩
  ·exact absurd h4' q6
  have IH := Asd.mk (rsameTy_any f)
  have HZ := Asd.mk hz
  have HM := Asd.mk hm
  have HM' := Asd.mk hm'
  have HL := Asd.mk hl
  have HL' := Asd.mk hl'
  have HR := Asd.mk hr
  have HR' := Asd.mk hr'
  have Q4 := Asd.mk q4
  rw [← q4]
  clear hz hm hm' hl hl' hr hr' e4 e4' q4 q5 q6 hk'
  go_enter Try.func52,Try.ntmps52
  have Z1 := two_a w #[.int .i64 k,.int .i64 n,.string nm,v3,.slice (some ⟨b,off,none⟩) ks.length cap] #[.int .i64 k,.int .i64 n,.string nm',u3,.slice (some ⟨b',off',none⟩) ks.length cap'] 38 4 _ rfl
  have Z2 := two_b w #[.int .i64 k,.int .i64 n,.string nm,v3,.slice (some ⟨b,off,none⟩) ks.length cap] #[.int .i64 k,.int .i64 n,.string nm',u3,.slice (some ⟨b',off',none⟩) ks.length cap'] 38 4 _ rfl
  have Z1 := Asd.mk Z1
  have Z2 := Asd.mk Z2
  go_wp2_with (go_at_call 19;refine (C.out _ (two_below _ _ _)).mono ?_;rintro e w2 ⟨rfl,hb2⟩;rw [q3];have z1 := cell_below hb2 Z1.out;have z2 := cell_below hb2 Z2.out)
  have B1 := Asd.mk ((two_below w _ _).trans (hb2.mono (two_below w _ _).size))
  have z1 := Asd.mk z1
  have z2 := Asd.mk z2
  clear hb2 Z1 Z2
  go_loopw [5] (fun i wr => ∃ j : Nat,j ≤ ks.length ∧ i = .int .i64 j ∧ Below w2.heap.size w2 wr ∧ ∀ q,q < j -> sameT (kAt ks q) (kAt ks' q) = true) (fun i _ => ks.length - (intOf i).toNat)
  case atStart => exact ⟨0,by omega,rfl,Below.refl _ _,fun q hq => by omega⟩
  case round =>
   obtain ⟨j,hj,rfl,hb,hA⟩ := hrel
   have HA := Asd.mk hA
   clear hA
   have y1 := cell_below hb z1.out
   have y2 := cell_below hb z2.out
   by_cases hlt : j < ks.length
   ·obtain ⟨x0,x1,x2,x3,x4,c0,c1,c2,c3,c4,ht⟩ := (((HR.out).mono B1.out).mono hb).at hlt
    obtain ⟨t0,t1,t2,t3,t4,d0,d1,d2,d3,d4,hu⟩ := (((HR'.out).mono B1.out).mono hb).at (by rw [← Q4.out];exact hlt : j < ks'.length)
    have HT := Asd.mk ht
    have HU := Asd.mk hu
    have HB := Asd.mk hb
    clear ht hu hb
    have ky1 := cell_regrown y1
    have ky2 := cell_regrown y2
    have k0 := cell_regrown c0
    have k1 := cell_regrown c1
    have k2 := cell_regrown c2
    have k3 := cell_regrown c3
    have k4 := cell_regrown c4
    have m0 := cell_regrown d0
    have m1 := cell_regrown d1
    have m2 := cell_regrown d2
    have m3 := cell_regrown d3
    have m4 := cell_regrown d4
    have cF : ∀ d os,Calls Try.prog 52 #[.agg #[x0,x1,x2,x3,x4],.agg #[t0,t1,t2,t3,t4]] (grow (redrawn wr d) os) fun e w'' => e = .returned (.bool (sameT (kAt ks j) (kAt ks' j))) ∧ ∃ p : Regrown,w'' = grow (redrawn wr p.d) p.os := fun d os => Calls.regrown_of (IH.out _ _ _ _ _ _ _ _ _ _ _ _ _ (by have := HZ.out;have := szT_kid (k := k) (n := n) (nm := nm) (ls := ls) hlt;omega) (HT.out.mono (below_regrown wr d os)) (HU.out.mono (below_regrown wr d os)))
    clear c0 c1 c2 c3 c4 d0 d1 d2 d3 d4
    rcases Bool.eq_false_or_eq_true (sameT (kAt ks j) (kAt ks' j)) with hh | hh
    ·go_wp2_with fail
     refine wp_region_quiet_below (by kernel_rfl) (by kernel_rfl) ?_
     repeat (go_big_quiet_step (exact cF _ _))
     refine wpQuiet_nil ?_
     intro _ hw'
     obtain ⟨⟨dq,osq⟩,hw''⟩ := hw'
     obtain ⟨W2,hW2⟩ : ∃ W2,W2 = grow (redrawn wr dq) osq := ⟨_,rfl⟩
     have hb2 : Below wr.heap.size wr W2 := by rw [hW2];exact below_regrown wr dq osq
     subst hw''
     rw [← hW2]
     clear hW2 ky1 ky2 k0 k1 k2 k3 k4 m0 m1 m2 m3 m4 cF
     go_wp2
     go_roundw
     case rel => exact ⟨j + 1,by omega,by go_num,HB.out.trans (hb2.mono HB.out.size),fun q hq => by
      by_cases e : q = j
      ·rw [e];exact hh
      ·exact HA.out q (by omega)⟩
     case measure => simp [intOf];omega
    ·go_wp2_with fail
     refine wp_region_quiet_below (by kernel_rfl) (by kernel_rfl) ?_
     repeat (go_big_quiet_step (exact cF _ _))
     refine wpQuiet_nil ?_
     intro _ hw'
     obtain ⟨⟨dq,osq⟩,hw''⟩ := hw'
     obtain ⟨W2,hW2⟩ : ∃ W2,W2 = grow (redrawn wr dq) osq := ⟨_,rfl⟩
     have hb2 : Below wr.heap.size wr W2 := by rw [hW2];exact below_regrown wr dq osq
     subst hw''
     rw [← hW2]
     clear hW2 ky1 ky2 k0 k1 k2 k3 k4 m0 m1 m2 m3 m4 cF
     go_wp2
     go_ret
     exact ⟨retB (sameL_differ hlt (by rw [← Q4.out];exact hlt) hh).symm,B1.out.trans ((HB.out.trans (hb2.mono HB.out.size)).mono B1.out.size)⟩
   ·have : j = ks.length := by omega
    subst this
    go_wp2
    go_ret
    exact ⟨retB (sameL_all Q4.out HA.out).symm,B1.out.trans (hb.mono B1.out.size)⟩
end Go.Proofs.Ytglefhgcfijiaaa

/- Parts of the proof: LexTake, LexVal. -/
import Derived.Test.YtkoabcncdjmoeaaGreatDoorMg
set_option linter.unusedSimpArgs false
set_option linter.unusedVariables false
set_option maxRecDepth 1000000
set_option maxHeartbeats 40000000
namespace Go.Proofs.YtkoabcncdjmoeaaGreatDoor
open Go.RowKit
theorem ret_str {a b : ByteArray} (h : a = b) : Ending.returned (.string a) = .returned (.string b) := by rw [h]
def notNl (c : Int) : Bool := c != 10
theorem skip1_nl (c : Int) (w : World) : Calls Tryz.prog 98 #[.int .u8 c] w fun e w' => e = .returned (.bool (notNl c)) ∧ w = w' := skip1_any c w
theorem take_skip (b : Nat) (s : ByteArray) (p : Nat) (w : World) (hs : s.size ≤ maxLen) (hp : p ≤ s.size) (h : Rd b s p w w) :
  Calls Tryz.prog 97 #[.pointer (some ⟨b,0,none⟩),.func (.func 98) #[] #[]] w fun e w' => e = .returned (.string (s.extract p (p + runN notNl (rest s p)))) ∧ Rd b s (p + runN notNl (rest s p)) w w' := by
 unfold maxLen at hs
 generalize hN : runN notNl (rest s p) = N
 have HN : Asd (runN notNl (rest s p) = N) := ⟨hN⟩
 clear hN
 have HR : Asd (Rd b s p w w) := ⟨h⟩
 have c0 := h.c0;have c1 := h.c1
 clear h
 go_enter Tryz.func97,Tryz.ntmps97
 go_wp2
 clear c0 c1
 go_loopg [32] (s.size - p) (fun gk p32 wr => ∃ k : Nat,p + k + gk = s.size ∧ k + runN notNl (rest s (p + k)) = N ∧ Rd b s (p + k) w wr)
 case atStart => exact ⟨0,by omega,by rw [Nat.add_zero,Nat.zero_add];exact HN.out,HR.out⟩
 case round =>
  obtain ⟨k,hk,hr,hrd⟩ := hrel
  have c0 := hrd.c0;have c1 := hrd.c1;have f1 := hrd.f1
  obtain ⟨m,hm⟩ : ∃ m,m = p + k := ⟨_,rfl⟩
  rw [← hm] at hr hrd c1
  have A : Asd (k + runN notNl (rest s m) = N ∧ Rd b s m w wr) := ⟨hr,hrd⟩
  have HM : Asd (m = p + k) := ⟨hm⟩
  have hm1 : p ≤ m := by omega
  have hm2 : m ≤ s.size := by omega
  have hm3 : m + gk = s.size := by omega
  clear hr hrd hk hm
  by_cases hlt : m < s.size
  ·have hd : decide (m < s.size) = true := by simpa using hlt
   have hb := byte_le s[m]
   rcases Bool.eq_false_or_eq_true (notNl (s[m].toNat : Int)) with hq | hq
   ·have HX : Asd (notNl (s[m].toNat : Int) = true) := ⟨hq⟩
    go_wp2_with fail
    go_quiet ((go_at_call 98;exact Calls.quiet_of_same ((skip1_nl _ _).mono fun _ _ hh => ⟨hh.1,hh.2.symm⟩)))
    go_wp2
    go_roundg (gk - 1)
    case measure => omega
    case rel => exact ⟨k + 1,by have := HM.out;omega,by
      have h1 := A.out.1
      rw [rest_lt s m hlt,runN,if_pos HX.out] at h1
      rw [← Nat.add_assoc,← HM.out]
      omega,by
      rw [← Nat.add_assoc,← HM.out]
      exact (A.out.2.drewN _).put _ _ (by omega)⟩
   ·have HX : Asd (notNl (s[m].toNat : Int) = false) := ⟨hq⟩
    have hmi : (m : Int) ≤ (s.size : Int) := by omega
    have hpi : (p : Int) ≤ (m : Int) := by omega
    go_wp2_with fail
    go_quiet ((go_at_call 98;exact Calls.quiet_of_same ((skip1_nl _ _).mono fun _ _ hh => ⟨hh.1,hh.2.symm⟩)))
    go_wp2
    go_quiet (fail)
    go_wp2
    go_ret
    have h1 := A.out.1
    rw [rest_lt s m hlt,runN,if_neg (by rw [HX.out];simp)] at h1
    have : m = p + N := by have := HM.out;omega
    have hx : s.extract p m = s.extract p (p + N) := by rw [← this]
    exact ⟨ret_str hx,by rw [← this];exact (A.out.2.drewN _).drewN _⟩
  ·have hd : decide (m < s.size) = false := by simpa using hlt
   have hmi : (m : Int) ≤ (s.size : Int) := by omega
   have hpi : (p : Int) ≤ (m : Int) := by omega
   go_wp2_with fail
   go_quiet (fail)
   go_wp2
   go_quiet (fail)
   go_wp2
   go_ret
   have h1 := A.out.1
   rw [rest_end s m (by omega),runN] at h1
   have : m = p + N := by have := HM.out;omega
   have hx : s.extract p m = s.extract p (p + N) := by rw [← this]
   exact ⟨ret_str hx,by rw [← this];exact (A.out.2.drewN _).drewN _⟩
theorem take_word (b : Nat) (s : ByteArray) (p : Nat) (w : World) (hs : s.size ≤ maxLen) (hp : p ≤ s.size) (h : Rd b s p w w) :
  Calls Tryz.prog 97 #[.pointer (some ⟨b,0,none⟩),.func (.func 103) #[] #[]] w fun e w' => e = .returned (.string (s.extract p (p + runN alnB (rest s p)))) ∧ Rd b s (p + runN alnB (rest s p)) w w' := by
 unfold maxLen at hs
 generalize hN : runN alnB (rest s p) = N
 have HN : Asd (runN alnB (rest s p) = N) := ⟨hN⟩
 clear hN
 have HR : Asd (Rd b s p w w) := ⟨h⟩
 have c0 := h.c0;have c1 := h.c1
 clear h
 go_enter Tryz.func97,Tryz.ntmps97
 go_wp2
 clear c0 c1
 go_loopg [32] (s.size - p) (fun gk p32 wr => ∃ k : Nat,p + k + gk = s.size ∧ k + runN alnB (rest s (p + k)) = N ∧ Rd b s (p + k) w wr)
 case atStart => exact ⟨0,by omega,by rw [Nat.add_zero,Nat.zero_add];exact HN.out,HR.out⟩
 case round =>
  obtain ⟨k,hk,hr,hrd⟩ := hrel
  have c0 := hrd.c0;have c1 := hrd.c1;have f1 := hrd.f1
  obtain ⟨m,hm⟩ : ∃ m,m = p + k := ⟨_,rfl⟩
  rw [← hm] at hr hrd c1
  have A : Asd (k + runN alnB (rest s m) = N ∧ Rd b s m w wr) := ⟨hr,hrd⟩
  have HM : Asd (m = p + k) := ⟨hm⟩
  have hm1 : p ≤ m := by omega
  have hm2 : m ≤ s.size := by omega
  have hm3 : m + gk = s.size := by omega
  clear hr hrd hk hm
  by_cases hlt : m < s.size
  ·have hd : decide (m < s.size) = true := by simpa using hlt
   have hb := byte_le s[m]
   rcases Bool.eq_false_or_eq_true (alnB (s[m].toNat : Int)) with hq | hq
   ·have HX : Asd (alnB (s[m].toNat : Int) = true) := ⟨hq⟩
    go_wp2_with fail
    go_quiet ((go_at_call 103;exact Calls.quiet_of_same ((word1_any _ _).mono fun _ _ hh => ⟨hh.1,hh.2.symm⟩)))
    go_wp2
    go_roundg (gk - 1)
    case measure => omega
    case rel => exact ⟨k + 1,by have := HM.out;omega,by
      have h1 := A.out.1
      rw [rest_lt s m hlt,runN,if_pos HX.out] at h1
      rw [← Nat.add_assoc,← HM.out]
      omega,by
      rw [← Nat.add_assoc,← HM.out]
      exact (A.out.2.drewN _).put _ _ (by omega)⟩
   ·have HX : Asd (alnB (s[m].toNat : Int) = false) := ⟨hq⟩
    have hmi : (m : Int) ≤ (s.size : Int) := by omega
    have hpi : (p : Int) ≤ (m : Int) := by omega
    go_wp2_with fail
    go_quiet ((go_at_call 103;exact Calls.quiet_of_same ((word1_any _ _).mono fun _ _ hh => ⟨hh.1,hh.2.symm⟩)))
    go_wp2
    go_quiet (fail)
    go_wp2
    go_ret
    have h1 := A.out.1
    rw [rest_lt s m hlt,runN,if_neg (by rw [HX.out];simp)] at h1
    have : m = p + N := by have := HM.out;omega
    have hx : s.extract p m = s.extract p (p + N) := by rw [← this]
    exact ⟨ret_str hx,by rw [← this];exact (A.out.2.drewN _).drewN _⟩
  ·have hd : decide (m < s.size) = false := by simpa using hlt
   have hmi : (m : Int) ≤ (s.size : Int) := by omega
   have hpi : (p : Int) ≤ (m : Int) := by omega
   go_wp2_with fail
   go_quiet (fail)
   go_wp2
   go_quiet (fail)
   go_wp2
   go_ret
   have h1 := A.out.1
   rw [rest_end s m (by omega),runN] at h1
   have : m = p + N := by have := HM.out;omega
   have hx : s.extract p m = s.extract p (p + N) := by rw [← this]
   exact ⟨ret_str hx,by rw [← this];exact (A.out.2.drewN _).drewN _⟩
theorem take_num (b : Nat) (s : ByteArray) (p : Nat) (i j : Nat) (w : World) (hs : s.size ≤ maxLen) (hp : p ≤ s.size) (h : Rd b s p w w) (hib : i ≠ b) (hjb : j ≠ b) (hi : w.cell? ⟨i,0,none⟩ = some (.int .i64 10)) (hj : w.cell? ⟨j,0,none⟩ = some (.func (.func 122) #[] #[.pointer (some ⟨i,0,none⟩)])) :
  Calls Tryz.prog 97 #[.pointer (some ⟨b,0,none⟩),.func (.func 100) #[] #[.pointer (some ⟨j,0,none⟩)]] w fun e w' => e = .returned (.string (s.extract p (p + runN digB (rest s p)))) ∧ Rd b s (p + runN digB (rest s p)) w w' := by
 unfold maxLen at hs
 generalize hN : runN digB (rest s p) = N
 have HN : Asd (runN digB (rest s p) = N) := ⟨hN⟩
 clear hN
 have HR : Asd (Rd b s p w w) := ⟨h⟩
 have c0 := h.c0;have c1 := h.c1
 clear h
 go_enter Tryz.func97,Tryz.ntmps97
 go_wp2
 clear c0 c1
 go_loopg [32] (s.size - p) (fun gk p32 wr => ∃ k : Nat,p + k + gk = s.size ∧ k + runN digB (rest s (p + k)) = N ∧ Rd b s (p + k) w wr)
 case atStart => exact ⟨0,by omega,by rw [Nat.add_zero,Nat.zero_add];exact HN.out,HR.out⟩
 case round =>
  obtain ⟨k,hk,hr,hrd⟩ := hrel
  have c0 := hrd.c0;have c1 := hrd.c1;have f1 := hrd.f1;have ki := hrd.cell (a := ⟨i,0,none⟩) hib hi;have kj := hrd.cell (a := ⟨j,0,none⟩) hjb hj
  obtain ⟨m,hm⟩ : ∃ m,m = p + k := ⟨_,rfl⟩
  rw [← hm] at hr hrd c1
  have A : Asd (k + runN digB (rest s m) = N ∧ Rd b s m w wr) := ⟨hr,hrd⟩
  have HM : Asd (m = p + k) := ⟨hm⟩
  have hm1 : p ≤ m := by omega
  have hm2 : m ≤ s.size := by omega
  have hm3 : m + gk = s.size := by omega
  clear hr hrd hk hm
  by_cases hlt : m < s.size
  ·have hd : decide (m < s.size) = true := by simpa using hlt
   have hb := byte_le s[m]
   have XX := Asd.mk (fun n => number1_any (s[m].toNat : Int) j i (wr.drewN n) hb.1 hb.2 ki kj)
   rcases Bool.eq_false_or_eq_true (digB (s[m].toNat : Int)) with hq | hq
   ·have HX : Asd (digB (s[m].toNat : Int) = true) := ⟨hq⟩
    go_wp2_with fail
    go_quiet ((go_at_call 100;exact Calls.quiet_of_same ((XX.out _).mono fun _ _ hh => ⟨hh.1,hh.2.symm⟩)))
    go_wp2
    go_roundg (gk - 1)
    case measure => omega
    case rel => exact ⟨k + 1,by have := HM.out;omega,by
      have h1 := A.out.1
      rw [rest_lt s m hlt,runN,if_pos HX.out] at h1
      rw [← Nat.add_assoc,← HM.out]
      omega,by
      rw [← Nat.add_assoc,← HM.out]
      exact (A.out.2.drewN _).put _ _ (by omega)⟩
   ·have HX : Asd (digB (s[m].toNat : Int) = false) := ⟨hq⟩
    have hmi : (m : Int) ≤ (s.size : Int) := by omega
    have hpi : (p : Int) ≤ (m : Int) := by omega
    go_wp2_with fail
    go_quiet ((go_at_call 100;exact Calls.quiet_of_same ((XX.out _).mono fun _ _ hh => ⟨hh.1,hh.2.symm⟩)))
    go_wp2
    go_quiet (fail)
    go_wp2
    go_ret
    have h1 := A.out.1
    rw [rest_lt s m hlt,runN,if_neg (by rw [HX.out];simp)] at h1
    have : m = p + N := by have := HM.out;omega
    have hx : s.extract p m = s.extract p (p + N) := by rw [← this]
    exact ⟨ret_str hx,by rw [← this];exact (A.out.2.drewN _).drewN _⟩
  ·have hd : decide (m < s.size) = false := by simpa using hlt
   have hmi : (m : Int) ≤ (s.size : Int) := by omega
   have hpi : (p : Int) ≤ (m : Int) := by omega
   go_wp2_with fail
   go_quiet (fail)
   go_wp2
   go_quiet (fail)
   go_wp2
   go_ret
   have h1 := A.out.1
   rw [rest_end s m (by omega),runN] at h1
   have : m = p + N := by have := HM.out;omega
   have hx : s.extract p m = s.extract p (p + N) := by rw [← this]
   exact ⟨ret_str hx,by rw [← this];exact (A.out.2.drewN _).drewN _⟩
theorem cellNew (w : World) (cs : Array Value) (t : TypeId) (j : Nat) (v : Value) (h : cs[j]? = some v) : (w.alloc (.cells cs t)).cell? ⟨w.heap.size,j,none⟩ = some v := by
 rw [World.cell?_alloc_at _ _ _ _ rfl]
 exact h
def valF (b : Int) : List UInt8 -> Int -> Int × Bool
 | [],n => (n,true)
 | c :: r,n => if (decide (dgtI b (c.toNat : Int) < 0) || decide ((9223372036854775807 - dgtI b (c.toNat : Int)) / b < n)) = true then (0,false) else valF b r (n * b + dgtI b (c.toNat : Int))
theorem dgt_range (b c : Int) (hb : 1 ≤ b) : -1 ≤ dgtI b c ∧ dgtI b c < b := by
 unfold dgtI
 rcases Bool.eq_false_or_eq_true (digB c) with hd | hd
 ·have hd2 : 48 ≤ c ∧ c ≤ 57 := by simpa [digB] using hd
  simp only [hd,if_true]
  split <;> omega
 ·rcases Bool.eq_false_or_eq_true (lowB c) with hl | hl
  ·have hl2 : 97 ≤ c ∧ c ≤ 122 := by simpa [lowB] using hl
   simp only [hd,hl,if_true,Bool.false_eq_true,if_false]
   split <;> omega
  ·simp only [hd,hl,Bool.false_eq_true,if_false]
   omega
theorem value10_any (s : ByteArray) (w : World) (hs : s.size ≤ maxLen) :
  Calls Tryz.prog 102 #[.string s,.int .i64 10] w fun e w' => e = .returned (.tuple #[.int .i64 (valF 10 s.data.toList 0).1,.bool (valF 10 s.data.toList 0).2]) ∧ Below w.heap.size w w' := by
 unfold maxLen at hs
 generalize hN : valF 10 s.data.toList 0 = N
 have HN : Asd (valF 10 (rest s 0) 0 = N) := ⟨by simpa [rest] using hN⟩
 clear hN
 go_enter Tryz.func102,Tryz.ntmps102
 go_wp2_with fail
 refine (digits_any 10 _).mono ?_
 rintro e w1 ⟨rfl,rfl⟩
 have hc : (w.alloc (.cells #[.int .i64 10] 3)).cell? ⟨w.heap.size,0,none⟩ = some (.int .i64 10) := cellNew _ _ _ 0 _ rfl
 have HB : Asd (Below w.heap.size w (w.alloc (.cells #[.int .i64 10] 3))) := ⟨(Below.refl _ _).alloc (Nat.le_refl _) _⟩
 generalize w.alloc (.cells #[.int .i64 10] 3) = W at hc HB ⊢
 go_wp2_with fail
 go_loop [4,13] (fun n i => ∃ (k : Nat) (m : Int),k ≤ s.size ∧ i = .int .i64 k ∧ n = .int .i64 m ∧ 0 ≤ m ∧ m ≤ 9223372036854775807 ∧ valF 10 (rest s k) m = N) (fun _ i => s.size - (intOf i).toNat)
 case atStart => exact ⟨0,0,Nat.zero_le _,rfl,rfl,Int.le_refl _,by omega,HN.out⟩
 case round =>
  obtain ⟨k,m,hk,rfl,rfl,hm0,hm1,hv⟩ := hrel
  have HV : Asd (valF 10 (rest s k) m = N) := ⟨hv⟩
  clear hv
  by_cases hlt : k < s.size
  ·have hb := byte_le s[k]
   have XX := Asd.mk (digits1_any 10 (s[k].toNat : Int) w.heap.size W hb.1 hb.2 hc)
   have hr := dgt_range 10 (s[k].toNat : Int) (by omega)
   have HS : Asd (valF 10 (rest s k) m = if (decide (dgtI 10 (s[k].toNat : Int) < 0) || decide ((9223372036854775807 - dgtI 10 (s[k].toNat : Int)) / 10 < m)) = true then (0,false) else valF 10 (rest s (k + 1)) (m * 10 + dgtI 10 (s[k].toNat : Int))) := ⟨by rw [rest_lt s k hlt];rfl⟩
   generalize dgtI 10 (s[k].toNat : Int) = d at XX hr HS
   obtain ⟨hr1,hr2⟩ := hr
   clear hb
   by_cases hd : d < 0
   ·go_wp2_with fail
    refine XX.out.mono ?_
    rintro e w1 ⟨rfl,rfl⟩
    go_wp2_with fail
    go_ret2
    have hN : N = (0,false) := by rw [← HV.out,HS.out,if_pos (by simp [hd])]
    rw [hN]
    exact ⟨rfl,HB.out⟩
   ·by_cases hq : (9223372036854775807 - d) / 10 < m
    ·go_wp2_with fail
     refine XX.out.mono ?_
     rintro e w1 ⟨rfl,rfl⟩
     go_wp2_with fail
     go_ret2
     have hN : N = (0,false) := by rw [← HV.out,HS.out,if_pos (by simp [hq])]
     rw [hN]
     exact ⟨rfl,HB.out⟩
    ·have g1 : 0 ≤ m * 10 + d := by omega
     have g2 : m * 10 + d ≤ 9223372036854775807 := by omega
     go_wp2_with fail
     refine XX.out.mono ?_
     rintro e w1 ⟨rfl,rfl⟩
     go_wp2_with fail
     go_round
     case rel => exact ⟨k + 1,m * 10 + d,by omega,by go_num,rfl,g1,g2,by rw [← HV.out,HS.out,if_neg (by simp [hd,hq])]⟩
     case measure => simp [intOf];omega
  ·have hN : N = (m,true) := by rw [← HV.out,rest_end s k (by omega)];rfl
   have HM := Asd.mk hN
   clear hN
   go_wp2_with fail
   go_ret2
   rw [HM.out]
   exact ⟨rfl,HB.out⟩
theorem value16_any (s : ByteArray) (w : World) (hs : s.size ≤ maxLen) :
  Calls Tryz.prog 102 #[.string s,.int .i64 16] w fun e w' => e = .returned (.tuple #[.int .i64 (valF 16 s.data.toList 0).1,.bool (valF 16 s.data.toList 0).2]) ∧ Below w.heap.size w w' := by
 unfold maxLen at hs
 generalize hN : valF 16 s.data.toList 0 = N
 have HN : Asd (valF 16 (rest s 0) 0 = N) := ⟨by simpa [rest] using hN⟩
 clear hN
 go_enter Tryz.func102,Tryz.ntmps102
 go_wp2_with fail
 refine (digits_any 16 _).mono ?_
 rintro e w1 ⟨rfl,rfl⟩
 have hc : (w.alloc (.cells #[.int .i64 16] 3)).cell? ⟨w.heap.size,0,none⟩ = some (.int .i64 16) := cellNew _ _ _ 0 _ rfl
 have HB : Asd (Below w.heap.size w (w.alloc (.cells #[.int .i64 16] 3))) := ⟨(Below.refl _ _).alloc (Nat.le_refl _) _⟩
 generalize w.alloc (.cells #[.int .i64 16] 3) = W at hc HB ⊢
 go_wp2_with fail
 go_loop [4,13] (fun n i => ∃ (k : Nat) (m : Int),k ≤ s.size ∧ i = .int .i64 k ∧ n = .int .i64 m ∧ 0 ≤ m ∧ m ≤ 9223372036854775807 ∧ valF 16 (rest s k) m = N) (fun _ i => s.size - (intOf i).toNat)
 case atStart => exact ⟨0,0,Nat.zero_le _,rfl,rfl,Int.le_refl _,by omega,HN.out⟩
 case round =>
  obtain ⟨k,m,hk,rfl,rfl,hm0,hm1,hv⟩ := hrel
  have HV : Asd (valF 16 (rest s k) m = N) := ⟨hv⟩
  clear hv
  by_cases hlt : k < s.size
  ·have hb := byte_le s[k]
   have XX := Asd.mk (digits1_any 16 (s[k].toNat : Int) w.heap.size W hb.1 hb.2 hc)
   have hr := dgt_range 16 (s[k].toNat : Int) (by omega)
   have HS : Asd (valF 16 (rest s k) m = if (decide (dgtI 16 (s[k].toNat : Int) < 0) || decide ((9223372036854775807 - dgtI 16 (s[k].toNat : Int)) / 16 < m)) = true then (0,false) else valF 16 (rest s (k + 1)) (m * 16 + dgtI 16 (s[k].toNat : Int))) := ⟨by rw [rest_lt s k hlt];rfl⟩
   generalize dgtI 16 (s[k].toNat : Int) = d at XX hr HS
   obtain ⟨hr1,hr2⟩ := hr
   clear hb
   by_cases hd : d < 0
   ·go_wp2_with fail
    refine XX.out.mono ?_
    rintro e w1 ⟨rfl,rfl⟩
    go_wp2_with fail
    go_ret2
    have hN : N = (0,false) := by rw [← HV.out,HS.out,if_pos (by simp [hd])]
    rw [hN]
    exact ⟨rfl,HB.out⟩
   ·by_cases hq : (9223372036854775807 - d) / 16 < m
    ·go_wp2_with fail
     refine XX.out.mono ?_
     rintro e w1 ⟨rfl,rfl⟩
     go_wp2_with fail
     go_ret2
     have hN : N = (0,false) := by rw [← HV.out,HS.out,if_pos (by simp [hq])]
     rw [hN]
     exact ⟨rfl,HB.out⟩
    ·have g1 : 0 ≤ m * 16 + d := by omega
     have g2 : m * 16 + d ≤ 9223372036854775807 := by omega
     go_wp2_with fail
     refine XX.out.mono ?_
     rintro e w1 ⟨rfl,rfl⟩
     go_wp2_with fail
     go_round
     case rel => exact ⟨k + 1,m * 16 + d,by omega,by go_num,rfl,g1,g2,by rw [← HV.out,HS.out,if_neg (by simp [hd,hq])]⟩
     case measure => simp [intOf];omega
  ·have hN : N = (m,true) := by rw [← HV.out,rest_end s k (by omega)];rfl
   have HM := Asd.mk hN
   clear hN
   go_wp2_with fail
   go_ret2
   rw [HM.out]
   exact ⟨rfl,HB.out⟩
end Go.Proofs.YtkoabcncdjmoeaaGreatDoor

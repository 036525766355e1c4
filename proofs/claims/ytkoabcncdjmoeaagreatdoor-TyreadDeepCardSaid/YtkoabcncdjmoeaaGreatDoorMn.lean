/- (*reader).skip. -/
import Derived.Test.YtkoabcncdjmoeaaGreatDoorMh
set_option linter.unusedSimpArgs false
set_option linter.unusedVariables false
set_option maxRecDepth 1000000
set_option maxHeartbeats 40000000
namespace Go.Proofs.YtkoabcncdjmoeaaGreatDoor
open Go.RowKit
def blankB (c : Int) : Bool := c == 32 || (c == 9 || (c == 10 || c == 13))
def gapN : Bool -> List UInt8 -> Nat
 | _,[] => 0
 | true,c :: r => if ((c.toNat : Int) == 10) = true then gapN false r + 1 else gapN true r + 1
 | false,c :: r => if blankB (c.toNat : Int) = true then gapN false r + 1 else if ((c.toNat : Int) == 59) = true then gapN true r + 1 else 0
theorem gap_true : ∀ l : List UInt8,gapN true l = runN notNl l + gapN false (l.drop (runN notNl l))
 | [] => rfl
 | c :: r => by
  have ih := gap_true r
  by_cases h : ((c.toNat : Int) == 10) = true
  ·have hn : notNl (c.toNat : Int) = false := by simp only [notNl,bne,h,Bool.not_true]
   have hb : blankB (c.toNat : Int) = true := by simp only [blankB,h,Bool.true_or,Bool.or_true]
   simp only [gapN,runN,h,hn,hb,if_true,Bool.false_eq_true,if_false,List.drop_zero]
   omega
  ·have h' : ((c.toNat : Int) == 10) = false := by simpa using h
   have hn : notNl (c.toNat : Int) = true := by simp only [notNl,bne,h',Bool.not_false]
   simp only [gapN,runN,h',hn,if_true,Bool.false_eq_true,if_false,List.drop_succ_cons]
   omega
theorem gap_le : ∀ (f : Bool) (l : List UInt8),gapN f l ≤ l.length
 | _,[] => by simp [gapN]
 | true,c :: r => by
  have := gap_le true r;have := gap_le false r
  simp only [gapN,List.length_cons]
  split <;> omega
 | false,c :: r => by
  have := gap_le true r;have := gap_le false r
  simp only [gapN,List.length_cons]
  split
  ·omega
  ·split <;> omega
theorem gap_blank (s : ByteArray) (q : Nat) (h : q < s.size) (hb : blankB (s[q].toNat : Int) = true) : gapN false (rest s q) = gapN false (rest s (q + 1)) + 1 := by
 rw [rest_lt s q h,gapN,if_pos hb]
theorem gap_comment (s : ByteArray) (q : Nat) (h : q < s.size) (hc : ((s[q].toNat : Int) == 59) = true) : gapN false (rest s q) = runN notNl (rest s q) + gapN false (rest s (q + runN notNl (rest s q))) ∧ 1 ≤ runN notNl (rest s q) := by
 have he : (s[q].toNat : Int) = 59 := by simpa using hc
 have hb : blankB (s[q].toNat : Int) = false := by rw [he];rfl
 have hn : notNl (s[q].toNat : Int) = true := by rw [he];rfl
 have hg := gap_true (rest s (q + 1))
 rw [rest_drop] at hg
 have hr : runN notNl (rest s q) = runN notNl (rest s (q + 1)) + 1 := by rw [rest_lt s q h,runN,if_pos hn]
 refine ⟨?_,by omega⟩
 rw [hr,rest_lt s q h,gapN,if_neg (by rw [hb];simp),if_pos hc,hg]
 rw [show q + (runN notNl (rest s (q + 1)) + 1) = q + 1 + runN notNl (rest s (q + 1)) by omega]
 omega
theorem gap_none (s : ByteArray) (q : Nat) (h : q < s.size) (hb : blankB (s[q].toNat : Int) = false) (hc : ((s[q].toNat : Int) == 59) = false) : gapN false (rest s q) = 0 := by
 rw [rest_lt s q h,gapN,if_neg (by rw [hb];simp),if_neg (by rw [hc];simp)]
theorem skip_any (b : Nat) (s : ByteArray) (p : Nat) (w : World) (hs : s.size ≤ maxLen) (hp : p ≤ s.size) (h : Rd b s p w w) :
  Calls Tryz.prog 68 #[.pointer (some ⟨b,0,none⟩)] w fun e w' => e = .returned (.tuple #[]) ∧ Rd b s (p + gapN false (rest s p)) w w' := by
 generalize hG : p + gapN false (rest s p) = G
 have HS := Asd.mk hs
 have H := Asd.mk (And.intro h hG)
 clear hG h
 unfold maxLen at hs
 go_enter Tryz.func68,Tryz.ntmps68
 go_step3
 go_wp2_with fail
 go_step3
 go_wp2_with fail
 go_loopg [20] (s.size - p) (fun gk p20 wr => ∃ q : Nat,q + gk = s.size ∧ q + gapN false (rest s q) = G ∧ Rd b s q w wr)
 case atStart => exact ⟨p,by omega,H.out.2,H.out.1⟩
 case round =>
  obtain ⟨q,hq,hg,hrd⟩ := hrel
  have A := Asd.mk (And.intro hg hrd)
  have c0 := hrd.c0;have c1 := hrd.c1;have f1 := hrd.f1
  clear hg hrd
  by_cases hlt : q < s.size
  ·have hd : decide (q < s.size) = true := by simpa using hlt
   rcases Bool.eq_false_or_eq_true ((s[q].toNat : Int) == 32) with h32 | h32
   ·have X := Asd.mk (gap_blank s q hlt (by simp only [blankB,h32,Bool.or_true,Bool.true_or,Bool.false_or]))
    go_wp2_with fail
    go_quiet (fail)
    go_wp2_with fail
    go_quiet (fail)
    go_wp2_with fail
    go_roundg (gk - 1)
    case measure => omega
    case rel => exact ⟨q + 1,by omega,by have := A.out.1;have := X.out;omega,(A.out.2.drewN _).put _ _ (by omega)⟩
   rcases Bool.eq_false_or_eq_true ((s[q].toNat : Int) == 9) with h9 | h9
   ·have X := Asd.mk (gap_blank s q hlt (by simp only [blankB,h32,h9,Bool.or_true,Bool.true_or,Bool.false_or]))
    go_wp2_with fail
    go_quiet (fail)
    go_wp2_with fail
    go_quiet (fail)
    go_wp2_with fail
    go_roundg (gk - 1)
    case measure => omega
    case rel => exact ⟨q + 1,by omega,by have := A.out.1;have := X.out;omega,(A.out.2.drewN _).put _ _ (by omega)⟩
   rcases Bool.eq_false_or_eq_true ((s[q].toNat : Int) == 10) with h10 | h10
   ·have X := Asd.mk (gap_blank s q hlt (by simp only [blankB,h32,h9,h10,Bool.or_true,Bool.true_or,Bool.false_or]))
    go_wp2_with fail
    go_quiet (fail)
    go_wp2_with fail
    go_quiet (fail)
    go_wp2_with fail
    go_roundg (gk - 1)
    case measure => omega
    case rel => exact ⟨q + 1,by omega,by have := A.out.1;have := X.out;omega,(A.out.2.drewN _).put _ _ (by omega)⟩
   rcases Bool.eq_false_or_eq_true ((s[q].toNat : Int) == 13) with h13 | h13
   ·have X := Asd.mk (gap_blank s q hlt (by simp only [blankB,h32,h9,h10,h13,Bool.or_true,Bool.true_or,Bool.false_or]))
    go_wp2_with fail
    go_quiet (fail)
    go_wp2_with fail
    go_quiet (fail)
    go_wp2_with fail
    go_roundg (gk - 1)
    case measure => omega
    case rel => exact ⟨q + 1,by omega,by have := A.out.1;have := X.out;omega,(A.out.2.drewN _).put _ _ (by omega)⟩
   rcases Bool.eq_false_or_eq_true ((s[q].toNat : Int) == 59) with h59 | h59
   ·have X := Asd.mk (gap_comment s q hlt h59)
    go_wp2_with fail
    go_quiet (fail)
    go_wp2_with fail
    go_quiet (fail)
    go_wp2_with fail
    refine (take_skip b s q _ HS.out (by omega) (Rd.refl (A.out.2.drewN _).here)).mono ?_
    rintro e w5 ⟨rfl,hrd5⟩
    have R5 := Asd.mk ((A.out.2.drewN _).trans hrd5)
    clear hrd5
    go_wp2_with fail
    have hle := runN_le notNl (rest s q)
    rw [rest_len] at hle
    go_roundg (gk - runN notNl (rest s q))
    case measure => have := X.out.2;omega
    case rel => exact ⟨q + runN notNl (rest s q),by omega,by have := A.out.1;have := X.out.1;omega,R5.out⟩
   ·have X := Asd.mk (gap_none s q hlt (by simp only [blankB,h32,h9,h10,h13,Bool.or_self]) h59)
    go_wp2_with fail
    go_quiet (fail)
    go_wp2_with fail
    go_quiet (fail)
    go_wp2_with fail
    rw [Exit.noGoto_normal]
    exact bodyPost_end (results_none rfl _ _ _) rfl ⟨rfl,by rw [show G = q by have := A.out.1;have := X.out;omega];exact (A.out.2.drewN _)⟩
  ·have hd : decide (q < s.size) = false := by simpa using hlt
   have X : Asd (gapN false (rest s q) = 0) := ⟨by rw [rest_end s q (by omega)];rfl⟩
   go_wp2_with fail
   go_quiet (fail)
   go_wp2_with fail
   rw [Exit.noGoto_normal]
   exact bodyPost_end (results_none rfl _ _ _) rfl ⟨rfl,by rw [show G = q by have := A.out.1;have := X.out;omega];exact (A.out.2.drewN _)⟩
end Go.Proofs.YtkoabcncdjmoeaaGreatDoor

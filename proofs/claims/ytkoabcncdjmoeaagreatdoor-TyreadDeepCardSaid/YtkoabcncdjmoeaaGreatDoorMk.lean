/- lex.signWidth. -/
import Derived.Test.YtkoabcncdjmoeaaGreatDoorMi
set_option linter.unusedSimpArgs false
set_option linter.unusedVariables false
set_option maxRecDepth 1000000
set_option maxHeartbeats 40000000
namespace Go.Proofs.YtkoabcncdjmoeaaGreatDoor
open Go.RowKit
theorem ext02_list (s : ByteArray) : (s.extract 0 2).toList = s.data.toList.take 2 := by
 rw [ByteArray.toList_eq,Lib.extract_data s 0 2];rfl
theorem sgn_short (s : ByteArray) (w : World) (hs : s.size ≤ maxLen) (h0 : 0 < s.size) (h1 : ¬ 1 < s.size) :
  Calls Tryz.prog 106 #[.string s] w fun e w' => e = .returned (.int .i64 (if oneB (bI s.data.toList 0) = true then 1 else 0)) ∧ w = w' := by
 unfold maxLen at hs
 rw [bI_get s 0 h0]
 generalize hR : (if oneB (s[0].toNat : Int) = true then (1 : Int) else 0) = R
 rcases Bool.eq_false_or_eq_true ((s[0].toNat : Int) == 40) with h40 | h40
 ·obtain rfl : R = 1 := by rw [← hR];unfold oneB;simp only [h40,Bool.or_true,Bool.true_or,Bool.false_or,if_true]
  clear hR
  go_enter Tryz.func106,Tryz.ntmps106
  go_wp2_with fail
  go_ret
  exact ⟨rfl,rfl⟩
 rcases Bool.eq_false_or_eq_true ((s[0].toNat : Int) == 41) with h41 | h41
 ·obtain rfl : R = 1 := by rw [← hR];unfold oneB;simp only [h40,h41,Bool.or_true,Bool.true_or,Bool.false_or,if_true]
  clear hR
  go_enter Tryz.func106,Tryz.ntmps106
  go_wp2_with fail
  go_ret
  exact ⟨rfl,rfl⟩
 rcases Bool.eq_false_or_eq_true ((s[0].toNat : Int) == 123) with h123 | h123
 ·obtain rfl : R = 1 := by rw [← hR];unfold oneB;simp only [h40,h41,h123,Bool.or_true,Bool.true_or,Bool.false_or,if_true]
  clear hR
  go_enter Tryz.func106,Tryz.ntmps106
  go_wp2_with fail
  go_ret
  exact ⟨rfl,rfl⟩
 rcases Bool.eq_false_or_eq_true ((s[0].toNat : Int) == 125) with h125 | h125
 ·obtain rfl : R = 1 := by rw [← hR];unfold oneB;simp only [h40,h41,h123,h125,Bool.or_true,Bool.true_or,Bool.false_or,if_true]
  clear hR
  go_enter Tryz.func106,Tryz.ntmps106
  go_wp2_with fail
  go_ret
  exact ⟨rfl,rfl⟩
 rcases Bool.eq_false_or_eq_true ((s[0].toNat : Int) == 91) with h91 | h91
 ·obtain rfl : R = 1 := by rw [← hR];unfold oneB;simp only [h40,h41,h123,h125,h91,Bool.or_true,Bool.true_or,Bool.false_or,if_true]
  clear hR
  go_enter Tryz.func106,Tryz.ntmps106
  go_wp2_with fail
  go_ret
  exact ⟨rfl,rfl⟩
 rcases Bool.eq_false_or_eq_true ((s[0].toNat : Int) == 93) with h93 | h93
 ·obtain rfl : R = 1 := by rw [← hR];unfold oneB;simp only [h40,h41,h123,h125,h91,h93,Bool.or_true,Bool.true_or,Bool.false_or,if_true]
  clear hR
  go_enter Tryz.func106,Tryz.ntmps106
  go_wp2_with fail
  go_ret
  exact ⟨rfl,rfl⟩
 rcases Bool.eq_false_or_eq_true ((s[0].toNat : Int) == 44) with h44 | h44
 ·obtain rfl : R = 1 := by rw [← hR];unfold oneB;simp only [h40,h41,h123,h125,h91,h93,h44,Bool.or_true,Bool.true_or,Bool.false_or,if_true]
  clear hR
  go_enter Tryz.func106,Tryz.ntmps106
  go_wp2_with fail
  go_ret
  exact ⟨rfl,rfl⟩
 rcases Bool.eq_false_or_eq_true ((s[0].toNat : Int) == 58) with h58 | h58
 ·obtain rfl : R = 1 := by rw [← hR];unfold oneB;simp only [h40,h41,h123,h125,h91,h93,h44,h58,Bool.or_true,Bool.true_or,Bool.false_or,if_true]
  clear hR
  go_enter Tryz.func106,Tryz.ntmps106
  go_wp2_with fail
  go_ret
  exact ⟨rfl,rfl⟩
 rcases Bool.eq_false_or_eq_true ((s[0].toNat : Int) == 46) with h46 | h46
 ·obtain rfl : R = 1 := by rw [← hR];unfold oneB;simp only [h40,h41,h123,h125,h91,h93,h44,h58,h46,Bool.or_true,Bool.true_or,Bool.false_or,if_true]
  clear hR
  go_enter Tryz.func106,Tryz.ntmps106
  go_wp2_with fail
  go_ret
  exact ⟨rfl,rfl⟩
 rcases Bool.eq_false_or_eq_true ((s[0].toNat : Int) == 61) with h61 | h61
 ·obtain rfl : R = 1 := by rw [← hR];unfold oneB;simp only [h40,h41,h123,h125,h91,h93,h44,h58,h46,h61,Bool.or_true,Bool.true_or,Bool.false_or,if_true]
  clear hR
  go_enter Tryz.func106,Tryz.ntmps106
  go_wp2_with fail
  go_ret
  exact ⟨rfl,rfl⟩
 rcases Bool.eq_false_or_eq_true ((s[0].toNat : Int) == 63) with h63 | h63
 ·obtain rfl : R = 1 := by rw [← hR];unfold oneB;simp only [h40,h41,h123,h125,h91,h93,h44,h58,h46,h61,h63,Bool.or_true,Bool.true_or,Bool.false_or,if_true]
  clear hR
  go_enter Tryz.func106,Tryz.ntmps106
  go_wp2_with fail
  go_ret
  exact ⟨rfl,rfl⟩
 rcases Bool.eq_false_or_eq_true ((s[0].toNat : Int) == 43) with h43 | h43
 ·obtain rfl : R = 1 := by rw [← hR];unfold oneB;simp only [h40,h41,h123,h125,h91,h93,h44,h58,h46,h61,h63,h43,Bool.or_true,Bool.true_or,Bool.false_or,if_true]
  clear hR
  go_enter Tryz.func106,Tryz.ntmps106
  go_wp2_with fail
  go_ret
  exact ⟨rfl,rfl⟩
 rcases Bool.eq_false_or_eq_true ((s[0].toNat : Int) == 45) with h45 | h45
 ·obtain rfl : R = 1 := by rw [← hR];unfold oneB;simp only [h40,h41,h123,h125,h91,h93,h44,h58,h46,h61,h63,h43,h45,Bool.or_true,Bool.true_or,Bool.false_or,if_true]
  clear hR
  go_enter Tryz.func106,Tryz.ntmps106
  go_wp2_with fail
  go_ret
  exact ⟨rfl,rfl⟩
 rcases Bool.eq_false_or_eq_true ((s[0].toNat : Int) == 42) with h42 | h42
 ·obtain rfl : R = 1 := by rw [← hR];unfold oneB;simp only [h40,h41,h123,h125,h91,h93,h44,h58,h46,h61,h63,h43,h45,h42,Bool.or_true,Bool.true_or,Bool.false_or,if_true]
  clear hR
  go_enter Tryz.func106,Tryz.ntmps106
  go_wp2_with fail
  go_ret
  exact ⟨rfl,rfl⟩
 rcases Bool.eq_false_or_eq_true ((s[0].toNat : Int) == 47) with h47 | h47
 ·obtain rfl : R = 1 := by rw [← hR];unfold oneB;simp only [h40,h41,h123,h125,h91,h93,h44,h58,h46,h61,h63,h43,h45,h42,h47,Bool.or_true,Bool.true_or,Bool.false_or,if_true]
  clear hR
  go_enter Tryz.func106,Tryz.ntmps106
  go_wp2_with fail
  go_ret
  exact ⟨rfl,rfl⟩
 rcases Bool.eq_false_or_eq_true ((s[0].toNat : Int) == 60) with h60 | h60
 ·obtain rfl : R = 1 := by rw [← hR];unfold oneB;simp only [h40,h41,h123,h125,h91,h93,h44,h58,h46,h61,h63,h43,h45,h42,h47,h60,Bool.or_true,Bool.true_or,Bool.false_or,if_true]
  clear hR
  go_enter Tryz.func106,Tryz.ntmps106
  go_wp2_with fail
  go_ret
  exact ⟨rfl,rfl⟩
 obtain rfl : R = 0 := by rw [← hR];unfold oneB;simp only [h40,h41,h123,h125,h91,h93,h44,h58,h46,h61,h63,h43,h45,h42,h47,h60,Bool.or_self,Bool.false_eq_true,if_false]
 clear hR
 go_enter Tryz.func106,Tryz.ntmps106
 go_wp2_with fail
 go_ret
 exact ⟨rfl,rfl⟩
theorem sgn_long (s : ByteArray) (w : World) (hs : s.size ≤ maxLen) (h0 : 0 < s.size) (h1 : 1 < s.size) (g0 : ((s.extract 0 2).toList == [61,62]) = false) (g1 : ((s.extract 0 2).toList == [45,62]) = false) (g2 : ((s.extract 0 2).toList == [60,58]) = false) (g3 : ((s.extract 0 2).toList == [43,43]) = false) (g4 : ((s.extract 0 2).toList == [61,61]) = false) :
  Calls Tryz.prog 106 #[.string s] w fun e w' => e = .returned (.int .i64 (if oneB (bI s.data.toList 0) = true then 1 else 0)) ∧ w = w' := by
 unfold maxLen at hs
 rw [bI_get s 0 h0]
 generalize hR : (if oneB (s[0].toNat : Int) = true then (1 : Int) else 0) = R
 rcases Bool.eq_false_or_eq_true ((s[0].toNat : Int) == 40) with h40 | h40
 ·obtain rfl : R = 1 := by rw [← hR];unfold oneB;simp only [h40,Bool.or_true,Bool.true_or,Bool.false_or,if_true]
  clear hR
  go_enter Tryz.func106,Tryz.ntmps106
  go_wp2_with fail
  go_ret
  exact ⟨rfl,rfl⟩
 rcases Bool.eq_false_or_eq_true ((s[0].toNat : Int) == 41) with h41 | h41
 ·obtain rfl : R = 1 := by rw [← hR];unfold oneB;simp only [h40,h41,Bool.or_true,Bool.true_or,Bool.false_or,if_true]
  clear hR
  go_enter Tryz.func106,Tryz.ntmps106
  go_wp2_with fail
  go_ret
  exact ⟨rfl,rfl⟩
 rcases Bool.eq_false_or_eq_true ((s[0].toNat : Int) == 123) with h123 | h123
 ·obtain rfl : R = 1 := by rw [← hR];unfold oneB;simp only [h40,h41,h123,Bool.or_true,Bool.true_or,Bool.false_or,if_true]
  clear hR
  go_enter Tryz.func106,Tryz.ntmps106
  go_wp2_with fail
  go_ret
  exact ⟨rfl,rfl⟩
 rcases Bool.eq_false_or_eq_true ((s[0].toNat : Int) == 125) with h125 | h125
 ·obtain rfl : R = 1 := by rw [← hR];unfold oneB;simp only [h40,h41,h123,h125,Bool.or_true,Bool.true_or,Bool.false_or,if_true]
  clear hR
  go_enter Tryz.func106,Tryz.ntmps106
  go_wp2_with fail
  go_ret
  exact ⟨rfl,rfl⟩
 rcases Bool.eq_false_or_eq_true ((s[0].toNat : Int) == 91) with h91 | h91
 ·obtain rfl : R = 1 := by rw [← hR];unfold oneB;simp only [h40,h41,h123,h125,h91,Bool.or_true,Bool.true_or,Bool.false_or,if_true]
  clear hR
  go_enter Tryz.func106,Tryz.ntmps106
  go_wp2_with fail
  go_ret
  exact ⟨rfl,rfl⟩
 rcases Bool.eq_false_or_eq_true ((s[0].toNat : Int) == 93) with h93 | h93
 ·obtain rfl : R = 1 := by rw [← hR];unfold oneB;simp only [h40,h41,h123,h125,h91,h93,Bool.or_true,Bool.true_or,Bool.false_or,if_true]
  clear hR
  go_enter Tryz.func106,Tryz.ntmps106
  go_wp2_with fail
  go_ret
  exact ⟨rfl,rfl⟩
 rcases Bool.eq_false_or_eq_true ((s[0].toNat : Int) == 44) with h44 | h44
 ·obtain rfl : R = 1 := by rw [← hR];unfold oneB;simp only [h40,h41,h123,h125,h91,h93,h44,Bool.or_true,Bool.true_or,Bool.false_or,if_true]
  clear hR
  go_enter Tryz.func106,Tryz.ntmps106
  go_wp2_with fail
  go_ret
  exact ⟨rfl,rfl⟩
 rcases Bool.eq_false_or_eq_true ((s[0].toNat : Int) == 58) with h58 | h58
 ·obtain rfl : R = 1 := by rw [← hR];unfold oneB;simp only [h40,h41,h123,h125,h91,h93,h44,h58,Bool.or_true,Bool.true_or,Bool.false_or,if_true]
  clear hR
  go_enter Tryz.func106,Tryz.ntmps106
  go_wp2_with fail
  go_ret
  exact ⟨rfl,rfl⟩
 rcases Bool.eq_false_or_eq_true ((s[0].toNat : Int) == 46) with h46 | h46
 ·obtain rfl : R = 1 := by rw [← hR];unfold oneB;simp only [h40,h41,h123,h125,h91,h93,h44,h58,h46,Bool.or_true,Bool.true_or,Bool.false_or,if_true]
  clear hR
  go_enter Tryz.func106,Tryz.ntmps106
  go_wp2_with fail
  go_ret
  exact ⟨rfl,rfl⟩
 rcases Bool.eq_false_or_eq_true ((s[0].toNat : Int) == 61) with h61 | h61
 ·obtain rfl : R = 1 := by rw [← hR];unfold oneB;simp only [h40,h41,h123,h125,h91,h93,h44,h58,h46,h61,Bool.or_true,Bool.true_or,Bool.false_or,if_true]
  clear hR
  go_enter Tryz.func106,Tryz.ntmps106
  go_wp2_with fail
  go_ret
  exact ⟨rfl,rfl⟩
 rcases Bool.eq_false_or_eq_true ((s[0].toNat : Int) == 63) with h63 | h63
 ·obtain rfl : R = 1 := by rw [← hR];unfold oneB;simp only [h40,h41,h123,h125,h91,h93,h44,h58,h46,h61,h63,Bool.or_true,Bool.true_or,Bool.false_or,if_true]
  clear hR
  go_enter Tryz.func106,Tryz.ntmps106
  go_wp2_with fail
  go_ret
  exact ⟨rfl,rfl⟩
 rcases Bool.eq_false_or_eq_true ((s[0].toNat : Int) == 43) with h43 | h43
 ·obtain rfl : R = 1 := by rw [← hR];unfold oneB;simp only [h40,h41,h123,h125,h91,h93,h44,h58,h46,h61,h63,h43,Bool.or_true,Bool.true_or,Bool.false_or,if_true]
  clear hR
  go_enter Tryz.func106,Tryz.ntmps106
  go_wp2_with fail
  go_ret
  exact ⟨rfl,rfl⟩
 rcases Bool.eq_false_or_eq_true ((s[0].toNat : Int) == 45) with h45 | h45
 ·obtain rfl : R = 1 := by rw [← hR];unfold oneB;simp only [h40,h41,h123,h125,h91,h93,h44,h58,h46,h61,h63,h43,h45,Bool.or_true,Bool.true_or,Bool.false_or,if_true]
  clear hR
  go_enter Tryz.func106,Tryz.ntmps106
  go_wp2_with fail
  go_ret
  exact ⟨rfl,rfl⟩
 rcases Bool.eq_false_or_eq_true ((s[0].toNat : Int) == 42) with h42 | h42
 ·obtain rfl : R = 1 := by rw [← hR];unfold oneB;simp only [h40,h41,h123,h125,h91,h93,h44,h58,h46,h61,h63,h43,h45,h42,Bool.or_true,Bool.true_or,Bool.false_or,if_true]
  clear hR
  go_enter Tryz.func106,Tryz.ntmps106
  go_wp2_with fail
  go_ret
  exact ⟨rfl,rfl⟩
 rcases Bool.eq_false_or_eq_true ((s[0].toNat : Int) == 47) with h47 | h47
 ·obtain rfl : R = 1 := by rw [← hR];unfold oneB;simp only [h40,h41,h123,h125,h91,h93,h44,h58,h46,h61,h63,h43,h45,h42,h47,Bool.or_true,Bool.true_or,Bool.false_or,if_true]
  clear hR
  go_enter Tryz.func106,Tryz.ntmps106
  go_wp2_with fail
  go_ret
  exact ⟨rfl,rfl⟩
 rcases Bool.eq_false_or_eq_true ((s[0].toNat : Int) == 60) with h60 | h60
 ·obtain rfl : R = 1 := by rw [← hR];unfold oneB;simp only [h40,h41,h123,h125,h91,h93,h44,h58,h46,h61,h63,h43,h45,h42,h47,h60,Bool.or_true,Bool.true_or,Bool.false_or,if_true]
  clear hR
  go_enter Tryz.func106,Tryz.ntmps106
  go_wp2_with fail
  go_ret
  exact ⟨rfl,rfl⟩
 obtain rfl : R = 0 := by rw [← hR];unfold oneB;simp only [h40,h41,h123,h125,h91,h93,h44,h58,h46,h61,h63,h43,h45,h42,h47,h60,Bool.or_self,Bool.false_eq_true,if_false]
 clear hR
 go_enter Tryz.func106,Tryz.ntmps106
 go_wp2_with fail
 go_ret
 exact ⟨rfl,rfl⟩
theorem signWidth_any (s : ByteArray) (w : World) (hs : s.size ≤ maxLen) (h0 : 0 < s.size) :
  Calls Tryz.prog 106 #[.string s] w fun e w' => e = .returned (.int .i64 (sgnW s.data.toList)) ∧ w = w' := by
 by_cases h1 : 1 < s.size
 ·generalize hR : sgnW s.data.toList = R
  rcases Bool.eq_false_or_eq_true ((s.extract 0 2).toList == [61,62]) with g0 | g0
  ·obtain rfl : R = 2 := by
    rw [← hR];unfold sgnW twoB;rw [← ext02_list,size_list];simp only [g0,Bool.or_true,Bool.true_or,Bool.false_or,Bool.and_true,decide_true,if_true,h1]
   clear hR
   unfold maxLen at hs
   go_enter Tryz.func106,Tryz.ntmps106
   go_wp2_with fail
   go_ret
   exact ⟨rfl,rfl⟩
  rcases Bool.eq_false_or_eq_true ((s.extract 0 2).toList == [45,62]) with g1 | g1
  ·obtain rfl : R = 2 := by
    rw [← hR];unfold sgnW twoB;rw [← ext02_list,size_list];simp only [g0,g1,Bool.or_true,Bool.true_or,Bool.false_or,Bool.and_true,decide_true,if_true,h1]
   clear hR
   unfold maxLen at hs
   go_enter Tryz.func106,Tryz.ntmps106
   go_wp2_with fail
   go_ret
   exact ⟨rfl,rfl⟩
  rcases Bool.eq_false_or_eq_true ((s.extract 0 2).toList == [60,58]) with g2 | g2
  ·obtain rfl : R = 2 := by
    rw [← hR];unfold sgnW twoB;rw [← ext02_list,size_list];simp only [g0,g1,g2,Bool.or_true,Bool.true_or,Bool.false_or,Bool.and_true,decide_true,if_true,h1]
   clear hR
   unfold maxLen at hs
   go_enter Tryz.func106,Tryz.ntmps106
   go_wp2_with fail
   go_ret
   exact ⟨rfl,rfl⟩
  rcases Bool.eq_false_or_eq_true ((s.extract 0 2).toList == [43,43]) with g3 | g3
  ·obtain rfl : R = 2 := by
    rw [← hR];unfold sgnW twoB;rw [← ext02_list,size_list];simp only [g0,g1,g2,g3,Bool.or_true,Bool.true_or,Bool.false_or,Bool.and_true,decide_true,if_true,h1]
   clear hR
   unfold maxLen at hs
   go_enter Tryz.func106,Tryz.ntmps106
   go_wp2_with fail
   go_ret
   exact ⟨rfl,rfl⟩
  rcases Bool.eq_false_or_eq_true ((s.extract 0 2).toList == [61,61]) with g4 | g4
  ·obtain rfl : R = 2 := by
    rw [← hR];unfold sgnW twoB;rw [← ext02_list,size_list];simp only [g0,g1,g2,g3,g4,Bool.or_true,Bool.true_or,Bool.false_or,Bool.and_true,decide_true,if_true,h1]
   clear hR
   unfold maxLen at hs
   go_enter Tryz.func106,Tryz.ntmps106
   go_wp2_with fail
   go_ret
   exact ⟨rfl,rfl⟩
  have hR2 : R = if oneB (bI s.data.toList 0) = true then 1 else 0 := by
   rw [← hR];unfold sgnW twoB;rw [← ext02_list];simp only [g0,g1,g2,g3,g4,Bool.or_self,Bool.and_false,Bool.false_eq_true,if_false]
  rw [hR2]
  exact sgn_long s w hs h0 h1 g0 g1 g2 g3 g4
 ·have hR2 : sgnW s.data.toList = if oneB (bI s.data.toList 0) = true then 1 else 0 := by
   unfold sgnW;rw [size_list];simp only [h1,decide_false,Bool.false_and,Bool.false_eq_true,if_false]
  rw [hR2]
  exact sgn_short s w hs h0 h1
end Go.Proofs.YtkoabcncdjmoeaaGreatDoor

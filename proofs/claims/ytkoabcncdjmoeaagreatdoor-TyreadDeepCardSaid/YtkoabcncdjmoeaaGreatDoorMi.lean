/- The lexer's functions on a string's front: element, escaped, hexadecimal, signWidth; failed. -/
import Derived.Lib.Strings
import Derived.Lib.IndexBytes
import Derived.Test.YtkoabcncdjmoeaaGreatDoorMh
set_option linter.unusedSimpArgs false
set_option linter.unusedVariables false
set_option maxRecDepth 1000000
set_option maxHeartbeats 40000000
namespace Go.Proofs.YtkoabcncdjmoeaaGreatDoor
open Go.RowKit
def bI (l : List UInt8) (j : Nat) : Int := ((l.getD j 0).toNat : Int)
theorem bI_get (s : ByteArray) (j : Nat) (h : j < s.size) : bI s.data.toList j = (s[j].toNat : Int) := by
 unfold bI
 rw [List.getD_eq_getElem?_getD,byte_at s j h]
 try rfl
theorem bI_range (l : List UInt8) (j : Nat) : 0 ≤ bI l j ∧ bI l j ≤ 255 := byte_le _
def hexE (l : List UInt8) : Int × Int := if l.length < 4 then (0,0) else if (valF 16 ((l.drop 2).take 2) 0).2 = true then ((valF 16 ((l.drop 2).take 2) 0).1,4) else (0,0)
def escE (l : List UInt8) : Int × Int :=
 if l.length < 2 then (0,0) else if (bI l 1 == 34) = true then (34,2) else if (bI l 1 == 92) = true then (92,2) else if (bI l 1 == 110) = true then (10,2) else if (bI l 1 == 120) = true then hexE l else (0,0)
def elemE (l : List UInt8) : Int × Int := if (bI l 0 == 92) = true then escE l else if plainB (bI l 0) = true then (bI l 0,1) else (0,0)
def twoB (l : List UInt8) : Bool := l.take 2 == [61,62] || (l.take 2 == [45,62] || (l.take 2 == [60,58] || (l.take 2 == [43,43] || l.take 2 == [61,61])))
def oneB (c : Int) : Bool := c == 40 || (c == 41 || (c == 123 || (c == 125 || (c == 91 || (c == 93 || (c == 44 || (c == 58 || (c == 46 || (c == 61 || (c == 63 || (c == 43 || (c == 45 || (c == 42 || (c == 47 || (c == 60)))))))))))))))
def sgnW (l : List UInt8) : Int := if (decide (1 < l.length) && twoB l) = true then 2 else if oneB (bI l 0) = true then 1 else 0
theorem hex2_range (l : List UInt8) (h : l.length = 2) : (valF 16 l 0).2 = true -> 0 ≤ (valF 16 l 0).1 ∧ (valF 16 l 0).1 ≤ 255 := by
 match l,h with
 | [a,b],_ =>
  have ha := dgt_range 16 (a.toNat : Int) (by omega)
  have hb := dgt_range 16 (b.toNat : Int) (by omega)
  simp only [valF]
  split
  ·intro h;cases h
  ·rename_i h1
   split
   ·intro h;cases h
   ·rename_i h2
    intro _
    simp only [Bool.or_eq_true,decide_eq_true_eq,not_or] at h1 h2
    simp only
    omega
theorem ext24_list (s : ByteArray) : (s.extract 2 4).data.toList = (s.data.toList.drop 2).take 2 := Lib.extract_data s 2 4
theorem ext24_size (s : ByteArray) (h : 4 ≤ s.size) : (s.extract 2 4).size = 2 := by
 rw [← size_list,ext24_list,List.length_take,List.length_drop,size_list];omega
theorem hexadecimal_any (s : ByteArray) (w : World) (hs : s.size ≤ maxLen) :
  Calls Tryz.prog 132 #[.string s] w fun e w' => e = .returned (.tuple #[.int .u8 (hexE s.data.toList).1,.int .i64 (hexE s.data.toList).2]) ∧ Below w.heap.size w w' := by
 generalize hR : hexE s.data.toList = R
 unfold maxLen at hs
 by_cases h4 : s.size < 4
 ·obtain rfl : R = (0,0) := by rw [← hR];unfold hexE;rw [if_pos (by rw [size_list];exact h4)]
  clear hR
  go_enter Tryz.func132,Tryz.ntmps132
  go_wp2_with fail
  go_ret2
  exact ⟨rfl,Below.refl _ _⟩
 ·have hv := value16_any (s.extract 2 4) w (by rw [ext24_size s (by omega)];unfold maxLen;omega)
  have hrg := hex2_range ((s.data.toList.drop 2).take 2) (by rw [List.length_take,List.length_drop,size_list];omega)
  rw [ext24_list] at hv
  have hR2 : R = if (valF 16 ((s.data.toList.drop 2).take 2) 0).2 = true then ((valF 16 ((s.data.toList.drop 2).take 2) 0).1,4) else (0,0) := by rw [← hR];unfold hexE;rw [if_neg (by rw [size_list];exact h4)]
  clear hR
  generalize valF 16 ((s.data.toList.drop 2).take 2) 0 = V at hv hrg hR2
  obtain ⟨n,ok⟩ := V
  have XX := Asd.mk hv
  clear hv
  simp only at hrg hR2
  rcases Bool.eq_false_or_eq_true ok with rfl | rfl
  ·obtain ⟨r1,r2⟩ := hrg rfl
   obtain rfl : R = (n,4) := by rw [hR2];rfl
   clear hR2 hrg
   go_enter Tryz.func132,Tryz.ntmps132
   go_wp2_with fail
   refine XX.out.mono ?_
   rintro e w1 ⟨rfl,hb1⟩
   go_wp2_with fail
   go_ret2
   exact ⟨rfl,hb1⟩
  ·obtain rfl : R = (0,0) := by rw [hR2];rfl
   clear hR2 hrg
   go_enter Tryz.func132,Tryz.ntmps132
   go_wp2_with fail
   refine XX.out.mono ?_
   rintro e w1 ⟨rfl,hb1⟩
   go_wp2_with fail
   go_ret2
   exact ⟨rfl,hb1⟩
theorem escaped_any (s : ByteArray) (w : World) (hs : s.size ≤ maxLen) :
  Calls Tryz.prog 124 #[.string s] w fun e w' => e = .returned (.tuple #[.int .u8 (escE s.data.toList).1,.int .i64 (escE s.data.toList).2]) ∧ Below w.heap.size w w' := by
 generalize hR : escE s.data.toList = R
 by_cases h2 : s.size < 2
 ·obtain rfl : R = (0,0) := by rw [← hR];unfold escE;rw [if_pos (by rw [size_list];exact h2)]
  unfold maxLen at hs
  clear hR
  go_enter Tryz.func124,Tryz.ntmps124
  go_wp2_with fail
  go_ret2
  exact ⟨rfl,Below.refl _ _⟩
 have hR2 : R = if ((s[1].toNat : Int) == 34) = true then (34,2) else if ((s[1].toNat : Int) == 92) = true then (92,2) else if ((s[1].toNat : Int) == 110) = true then (10,2) else if ((s[1].toNat : Int) == 120) = true then hexE s.data.toList else (0,0) := by
  rw [← hR];unfold escE;rw [if_neg (by rw [size_list];exact h2),bI_get s 1 (by omega)]
 clear hR
 have XX := Asd.mk (hexadecimal_any s w hs)
 have HS := Asd.mk hs
 unfold maxLen at hs
 have hlt : 1 < s.size := by omega
 rcases Bool.eq_false_or_eq_true ((s[1].toNat : Int) == 34) with h34 | h34
 ·have he : (s[1].toNat : Int) = 34 := by simpa using h34
  obtain rfl : R = ((s[1].toNat : Int),2) := by rw [hR2,h34,he];rfl
  clear hR2 he
  go_enter Tryz.func124,Tryz.ntmps124
  go_wp2_with fail
  go_ret2
  exact ⟨rfl,Below.refl _ _⟩
 rcases Bool.eq_false_or_eq_true ((s[1].toNat : Int) == 92) with h92 | h92
 ·have he : (s[1].toNat : Int) = 92 := by simpa using h92
  obtain rfl : R = ((s[1].toNat : Int),2) := by rw [hR2,h34,h92,he];rfl
  clear hR2 he
  go_enter Tryz.func124,Tryz.ntmps124
  go_wp2_with fail
  go_ret2
  exact ⟨rfl,Below.refl _ _⟩
 rcases Bool.eq_false_or_eq_true ((s[1].toNat : Int) == 110) with h110 | h110
 ·obtain rfl : R = (10,2) := by rw [hR2,h34,h92,h110];rfl
  clear hR2
  go_enter Tryz.func124,Tryz.ntmps124
  go_wp2_with fail
  go_ret2
  exact ⟨rfl,Below.refl _ _⟩
 rcases Bool.eq_false_or_eq_true ((s[1].toNat : Int) == 120) with h120 | h120
 ·obtain rfl : R = hexE s.data.toList := by rw [hR2,h34,h92,h110,h120];rfl
  clear hR2
  go_enter Tryz.func124,Tryz.ntmps124
  go_wp2_with fail
  refine XX.out.mono ?_
  rintro e w1 ⟨rfl,hb1⟩
  go_wp2_with fail
  go_ret2
  exact ⟨rfl,hb1⟩
 ·obtain rfl : R = (0,0) := by rw [hR2,h34,h92,h110,h120];rfl
  clear hR2
  go_enter Tryz.func124,Tryz.ntmps124
  go_wp2_with fail
  go_ret2
  exact ⟨rfl,Below.refl _ _⟩
theorem element_any (s : ByteArray) (w : World) (hs : s.size ≤ maxLen) (h0 : 0 < s.size) :
  Calls Tryz.prog 105 #[.string s] w fun e w' => e = .returned (.tuple #[.int .u8 (elemE s.data.toList).1,.int .i64 (elemE s.data.toList).2]) ∧ Below w.heap.size w w' := by
 generalize hR : elemE s.data.toList = R
 have hR2 : R = if ((s[0].toNat : Int) == 92) = true then escE s.data.toList else if plainB (s[0].toNat : Int) = true then ((s[0].toNat : Int),1) else (0,0) := by
  rw [← hR];unfold elemE;rw [bI_get s 0 h0]
 clear hR
 have XX := Asd.mk (escaped_any s w hs)
 have HS := Asd.mk hs
 unfold maxLen at hs
 rcases Bool.eq_false_or_eq_true ((s[0].toNat : Int) == 92) with h92 | h92
 ·obtain rfl : R = escE s.data.toList := by rw [hR2,h92];rfl
  clear hR2
  go_enter Tryz.func105,Tryz.ntmps105
  go_wp2_with fail
  refine XX.out.mono ?_
  rintro e w1 ⟨rfl,hb1⟩
  go_wp2_with fail
  go_ret2
  exact ⟨rfl,hb1⟩
 have hpl := Asd.mk (lplain_any (s[0].toNat : Int) w)
 rcases Bool.eq_false_or_eq_true (plainB (s[0].toNat : Int)) with hp | hp
 ·obtain rfl : R = ((s[0].toNat : Int),1) := by rw [hR2,h92,hp];rfl
  clear hR2
  rw [hp] at hpl
  go_enter Tryz.func105,Tryz.ntmps105
  go_wp2_with fail
  refine hpl.out.mono ?_
  rintro e w1 ⟨rfl,rfl⟩
  go_wp2_with fail
  go_ret2
  exact ⟨rfl,Below.refl _ _⟩
 ·obtain rfl : R = (0,0) := by rw [hR2,h92,hp];rfl
  clear hR2
  rw [hp] at hpl
  go_enter Tryz.func105,Tryz.ntmps105
  go_wp2_with fail
  refine hpl.out.mono ?_
  rintro e w1 ⟨rfl,rfl⟩
  go_wp2_with fail
  go_ret2
  exact ⟨rfl,Below.refl _ _⟩
def errV (c a : Int) : Value := .iface 85 (.agg #[.int .i64 c,.int .i64 a])
def tokV (k n : Int) (t : ByteArray) (a : Int) : Value := .agg #[.int .i64 k,.int .i64 n,.string t,.int .i64 a]
def noTok : Value := .agg #[.int .i64 0,.int .i64 0,.string ⟨#[]⟩,.int .i64 0]
theorem lnew_any (c a : Int) (w : World) (hc : (c == 0) = false) : Calls Tryz.prog 26 #[.int .i64 c,.int .i64 a] w fun e w' => e = .returned (errV c a) ∧ w = w' := by
 go_enter Tryz.func26,Tryz.ntmps26
 go_wp2_with fail
 go_ret
 exact ⟨rfl,rfl⟩
theorem failed_any (c a : Int) (w : World) (hc : (c == 0) = false) : Calls Tryz.prog 101 #[.int .i64 c,.int .i64 a] w fun e w' => e = .returned (.tuple #[noTok,errV c a]) ∧ Below w.heap.size w w' := by
 have HC := Asd.mk hc
 clear hc
 go_enter Tryz.func101,Tryz.ntmps101
 go_wp2_with fail
 refine (lnew_any c a _ HC.out).mono ?_
 rintro e w1 ⟨rfl,rfl⟩
 unfold errV
 go_wp2_with fail
 exact bodyPost_ret (v := .tuple #[noTok,errV c a]) (by simp [results,Tryz.results101,go_sem,noTok,errV]) rfl ⟨rfl,(Below.refl _ _).alloc (Nat.le_refl _) _⟩
end Go.Proofs.YtkoabcncdjmoeaaGreatDoor

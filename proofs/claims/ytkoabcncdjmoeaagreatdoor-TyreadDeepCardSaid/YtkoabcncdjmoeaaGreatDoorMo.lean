/- Parts of the proof: LexNext, LexAll, LexMO. -/
import Derived.Test.YtkoabcncdjmoeaaGreatDoorMm
import Derived.Test.YtkoabcncdjmoeaaGreatDoorMn
set_option linter.unusedSimpArgs false
set_option linter.unusedVariables false
set_option maxRecDepth 1000000
set_option maxHeartbeats 40000000
namespace Go.Proofs.YtkoabcncdjmoeaaGreatDoor
open Go.RowKit
def itemI (l : List UInt8) : It := if digB (bI l 0) = true then numI l else if letB (bI l 0) = true then wordI l else if (bI l 0 == 34) = true then textI l else signI l
def itemE (l : List UInt8) : It := if l.length = 0 then .tok 0 0 [] 0 else itemI l
theorem ItP_form {it : It} {b : Nat} {s : ByteArray} {p : Nat} {w w' : World} {e : Ending} (h : ItP it b s p w e w') :
  ∃ k n t a ev q,e = .returned (.tuple #[.agg #[.int .i64 k,.int .i64 n,.string t,.int .i64 a],ev]) ∧ Rd b s q w w' ∧
   ∀ w0 w1,Rd b s q w0 w1 -> ItP it b s p w0 (.returned (.tuple #[.agg #[.int .i64 k,.int .i64 n,.string t,.int .i64 a],ev])) w1 := by
 cases it with
 | tok k n t wd => exact ⟨k,n,_,p,_,_,h.1,h.2,fun w0 w1 hr => ⟨rfl,hr⟩⟩
 | bad c o =>
  obtain ⟨he,q,hr⟩ := h
  exact ⟨0,0,_,0,_,q,he,hr,fun w0 w1 hr => ⟨rfl,q,hr⟩⟩
theorem next_any (b : Nat) (s : ByteArray) (p q : Nat) (w : World) (hs : s.size ≤ maxLen) (hp : p ≤ s.size) (hq : q = p + gapN false (rest s p)) (h : Rd b s p w w) :
  Calls Tryz.prog 44 #[.pointer (some ⟨b,0,none⟩)] w fun e w' => ItP (itemE (rest s q)) b s q w e w' := by
 have hqs : q ≤ s.size := by have := gap_le false (rest s p);rw [rest_len] at this;omega
 have F := Asd.mk (tok_start b s p w h _ rfl)
 have HS := Asd.mk hs
 have HP := Asd.mk hp
 have HQ := Asd.mk hq
 have hbl := h.lt
 clear h hq hp
 unfold maxLen at hs
 generalize hI : itemE (rest s q) = I
 have HI := Asd.mk hI
 clear hI
 go_enter Tryz.func44,Tryz.ntmps44
 go_wp2_with fail
 generalize w.alloc (.cells #[.int .i64 0,.int .i64 0,.string ⟨#[]⟩,.int .i64 0] 56) = W at F ⊢
 refine (skip_any b s p W HS.out HP.out (Rd.refl F.out.1.here)).mono ?_
 rintro e w4 ⟨rfl,hrd⟩
 rw [← HQ.out] at hrd
 have hz := hrd.blk (k := w.heap.size) (by omega) F.out.2
 have E := Asd.mk (And.intro (F.out.1.trans hrd) hz)
 have c0 := hrd.c0
 have c1 := hrd.c1
 clear hrd F hz
 by_cases hlt : q < s.size
 ·have hlen : (rest s q).length = s.size - q := rest_len s q
  have hI2 : I = itemI (rest s q) := by rw [← HI.out];unfold itemE;rw [if_neg (by omega)]
  have hb0 : bI (rest s q) 0 = (s[q].toNat : Int) := by rw [rest_lt s q hlt];rfl
  unfold itemI at hI2
  rw [hb0] at hI2
  have HI2 := Asd.mk hI2
  clear hI2 hb0 HI hlen
  have hne : ((q : Int) == (s.size : Int)) = false := by rw [beq_eq_false_iff_ne];omega
  have hne2 : (q == s.size) = false := by rw [beq_eq_false_iff_ne];omega
  have dig := Asd.mk (fun w => ldigit_any (s[q].toNat : Int) w)
  have let' := Asd.mk (fun w => lletter_any (s[q].toNat : Int) w)
  have hqi : (q : Int) ≤ (s.size : Int) := by omega
  rcases Bool.eq_false_or_eq_true (digB (s[q].toNat : Int)) with hd | hd
  ·obtain rfl : I = numI (rest s q) := by rw [HI2.out,hd];rfl
   rw [hd] at dig
   clear HI2 hd
   go_wp2_with fail
   go_quiet (fail)
   obtain ⟨w5,hw5⟩ : ∃ w5,w5 = w4.drewN nq := ⟨_,rfl⟩
   rw [← hw5]
   have E5 := Asd.mk (And.intro (show Rd b s q w w5 by rw [hw5];exact E.out.1.drewN nq) (show w5.heap[w.heap.size]? = some (.cells zeroTok 56 (0,0)) by rw [hw5];exact E.out.2))
   clear hw5 c0 c1
   have c0 := E5.out.1.c0
   have c1 := E5.out.1.c1
   go_wp2_with fail
   go_quiet (fail)
   obtain ⟨w6,hw6⟩ : ∃ w6,w6 = w5.drewN nq := ⟨_,rfl⟩
   rw [← hw6]
   have G := Asd.mk (And.intro (show Rd b s q w w6 by rw [hw6];exact E5.out.1.drewN nq) (show w6.heap[w.heap.size]? = some (.cells zeroTok 56 (0,0)) by rw [hw6];exact E5.out.2))
   clear hw6 c0 c1
   go_wp2_with fail
   refine (dig.out _).mono ?_
   rintro e w5 ⟨rfl,rfl⟩
   go_wp2_with fail
   refine (number_any b s q _ HS.out hqs (Rd.refl G.out.1.here)).mono ?_
   rintro e w6 hP
   obtain ⟨tk,tn,tt,ta,ev,q2,rfl,hR6,hfin⟩ := ItP_form hP
   have E6 := Asd.mk (And.intro (Rd.trans G.out.1 hR6) (hR6.blk (k := w.heap.size) (by omega) G.out.2))
   have HF := Asd.mk hfin
   clear hP hR6 hfin
   have hz6 := E6.out.2
   have z0 : w6.cell? ⟨w.heap.size,0,none⟩ = some (.int .i64 0) := cell_of hz6 0
   have z1 : w6.cell? ⟨w.heap.size,1,none⟩ = some (.int .i64 0) := cell_of hz6 1
   have z2 : w6.cell? ⟨w.heap.size,2,none⟩ = some (.string ⟨#[]⟩) := cell_of hz6 2
   have z3 : w6.cell? ⟨w.heap.size,3,none⟩ = some (.int .i64 0) := cell_of hz6 3
   have f0 : w6.frozen? ⟨w.heap.size,0,none⟩ = false := free_of hz6 0
   have f1 : w6.frozen? ⟨w.heap.size,1,none⟩ = false := free_of hz6 1
   have f2 : w6.frozen? ⟨w.heap.size,2,none⟩ = false := free_of hz6 2
   have f3 : w6.frozen? ⟨w.heap.size,3,none⟩ = false := free_of hz6 3
   clear hz6
   go_wp2_with fail
   refine tok_ret E6.out.1 E6.out.2 rfl ?_
   intro Wf hR y0 y1 y2 y3
   exact bodyPost_ret (v := .tuple #[.agg #[.int .i64 tk,.int .i64 tn,.string tt,.int .i64 ta],ev]) (by simp [results,Tryz.results44,go_sem,y0,y1,y2,y3]) rfl (HF.out _ _ hR)
  rw [hd] at dig HI2
  simp only [Bool.false_eq_true,if_false] at HI2
  rcases Bool.eq_false_or_eq_true (letB (s[q].toNat : Int)) with hl | hl
  ·obtain rfl : I = wordI (rest s q) := by rw [HI2.out,hl];rfl
   rw [hl] at let'
   clear HI2 hl hd
   go_wp2_with fail
   go_quiet (fail)
   obtain ⟨w5,hw5⟩ : ∃ w5,w5 = w4.drewN nq := ⟨_,rfl⟩
   rw [← hw5]
   have E5 := Asd.mk (And.intro (show Rd b s q w w5 by rw [hw5];exact E.out.1.drewN nq) (show w5.heap[w.heap.size]? = some (.cells zeroTok 56 (0,0)) by rw [hw5];exact E.out.2))
   clear hw5 c0 c1
   have c0 := E5.out.1.c0
   have c1 := E5.out.1.c1
   go_wp2_with fail
   go_quiet (fail)
   obtain ⟨w6,hw6⟩ : ∃ w6,w6 = w5.drewN nq := ⟨_,rfl⟩
   rw [← hw6]
   have G := Asd.mk (And.intro (show Rd b s q w w6 by rw [hw6];exact E5.out.1.drewN nq) (show w6.heap[w.heap.size]? = some (.cells zeroTok 56 (0,0)) by rw [hw6];exact E5.out.2))
   clear hw6 c0 c1
   go_wp2_with fail
   refine (dig.out _).mono ?_
   rintro e w5 ⟨rfl,rfl⟩
   go_wp2_with fail
   refine (let'.out _).mono ?_
   rintro e w5 ⟨rfl,rfl⟩
   go_wp2_with fail
   refine (word_any b s q _ HS.out hqs (Rd.refl G.out.1.here)).mono ?_
   rintro e w6 hP
   obtain ⟨tk,tn,tt,ta,ev,q2,rfl,hR6,hfin⟩ := ItP_form hP
   have E6 := Asd.mk (And.intro (Rd.trans G.out.1 hR6) (hR6.blk (k := w.heap.size) (by omega) G.out.2))
   have HF := Asd.mk hfin
   clear hP hR6 hfin
   have hz6 := E6.out.2
   have z0 : w6.cell? ⟨w.heap.size,0,none⟩ = some (.int .i64 0) := cell_of hz6 0
   have z1 : w6.cell? ⟨w.heap.size,1,none⟩ = some (.int .i64 0) := cell_of hz6 1
   have z2 : w6.cell? ⟨w.heap.size,2,none⟩ = some (.string ⟨#[]⟩) := cell_of hz6 2
   have z3 : w6.cell? ⟨w.heap.size,3,none⟩ = some (.int .i64 0) := cell_of hz6 3
   have f0 : w6.frozen? ⟨w.heap.size,0,none⟩ = false := free_of hz6 0
   have f1 : w6.frozen? ⟨w.heap.size,1,none⟩ = false := free_of hz6 1
   have f2 : w6.frozen? ⟨w.heap.size,2,none⟩ = false := free_of hz6 2
   have f3 : w6.frozen? ⟨w.heap.size,3,none⟩ = false := free_of hz6 3
   clear hz6
   go_wp2_with fail
   refine tok_ret E6.out.1 E6.out.2 rfl ?_
   intro Wf hR y0 y1 y2 y3
   exact bodyPost_ret (v := .tuple #[.agg #[.int .i64 tk,.int .i64 tn,.string tt,.int .i64 ta],ev]) (by simp [results,Tryz.results44,go_sem,y0,y1,y2,y3]) rfl (HF.out _ _ hR)
  rw [hl] at let' HI2
  simp only [Bool.false_eq_true,if_false] at HI2
  rcases Bool.eq_false_or_eq_true ((s[q].toNat : Int) == 34) with h34 | h34
  ·obtain rfl : I = textI (rest s q) := by rw [HI2.out,h34];rfl
   clear HI2 hl hd
   go_wp2_with fail
   go_quiet (fail)
   obtain ⟨w5,hw5⟩ : ∃ w5,w5 = w4.drewN nq := ⟨_,rfl⟩
   rw [← hw5]
   have E5 := Asd.mk (And.intro (show Rd b s q w w5 by rw [hw5];exact E.out.1.drewN nq) (show w5.heap[w.heap.size]? = some (.cells zeroTok 56 (0,0)) by rw [hw5];exact E.out.2))
   clear hw5 c0 c1
   have c0 := E5.out.1.c0
   have c1 := E5.out.1.c1
   go_wp2_with fail
   go_quiet (fail)
   obtain ⟨w6,hw6⟩ : ∃ w6,w6 = w5.drewN nq := ⟨_,rfl⟩
   rw [← hw6]
   have G := Asd.mk (And.intro (show Rd b s q w w6 by rw [hw6];exact E5.out.1.drewN nq) (show w6.heap[w.heap.size]? = some (.cells zeroTok 56 (0,0)) by rw [hw6];exact E5.out.2))
   clear hw6 c0 c1
   go_wp2_with fail
   refine (dig.out _).mono ?_
   rintro e w5 ⟨rfl,rfl⟩
   go_wp2_with fail
   refine (let'.out _).mono ?_
   rintro e w5 ⟨rfl,rfl⟩
   go_wp2_with fail
   refine (text_any b s q _ HS.out hlt (Rd.refl G.out.1.here)).mono ?_
   rintro e w6 hP
   obtain ⟨tk,tn,tt,ta,ev,q2,rfl,hR6,hfin⟩ := ItP_form hP
   have E6 := Asd.mk (And.intro (Rd.trans G.out.1 hR6) (hR6.blk (k := w.heap.size) (by omega) G.out.2))
   have HF := Asd.mk hfin
   clear hP hR6 hfin
   have hz6 := E6.out.2
   have z0 : w6.cell? ⟨w.heap.size,0,none⟩ = some (.int .i64 0) := cell_of hz6 0
   have z1 : w6.cell? ⟨w.heap.size,1,none⟩ = some (.int .i64 0) := cell_of hz6 1
   have z2 : w6.cell? ⟨w.heap.size,2,none⟩ = some (.string ⟨#[]⟩) := cell_of hz6 2
   have z3 : w6.cell? ⟨w.heap.size,3,none⟩ = some (.int .i64 0) := cell_of hz6 3
   have f0 : w6.frozen? ⟨w.heap.size,0,none⟩ = false := free_of hz6 0
   have f1 : w6.frozen? ⟨w.heap.size,1,none⟩ = false := free_of hz6 1
   have f2 : w6.frozen? ⟨w.heap.size,2,none⟩ = false := free_of hz6 2
   have f3 : w6.frozen? ⟨w.heap.size,3,none⟩ = false := free_of hz6 3
   clear hz6
   go_wp2_with fail
   refine tok_ret E6.out.1 E6.out.2 rfl ?_
   intro Wf hR y0 y1 y2 y3
   exact bodyPost_ret (v := .tuple #[.agg #[.int .i64 tk,.int .i64 tn,.string tt,.int .i64 ta],ev]) (by simp [results,Tryz.results44,go_sem,y0,y1,y2,y3]) rfl (HF.out _ _ hR)
  ·obtain rfl : I = signI (rest s q) := by rw [HI2.out,h34];rfl
   clear HI2 hl hd
   go_wp2_with fail
   go_quiet (fail)
   obtain ⟨w5,hw5⟩ : ∃ w5,w5 = w4.drewN nq := ⟨_,rfl⟩
   rw [← hw5]
   have E5 := Asd.mk (And.intro (show Rd b s q w w5 by rw [hw5];exact E.out.1.drewN nq) (show w5.heap[w.heap.size]? = some (.cells zeroTok 56 (0,0)) by rw [hw5];exact E.out.2))
   clear hw5 c0 c1
   have c0 := E5.out.1.c0
   have c1 := E5.out.1.c1
   go_wp2_with fail
   go_quiet (fail)
   obtain ⟨w6,hw6⟩ : ∃ w6,w6 = w5.drewN nq := ⟨_,rfl⟩
   rw [← hw6]
   have G := Asd.mk (And.intro (show Rd b s q w w6 by rw [hw6];exact E5.out.1.drewN nq) (show w6.heap[w.heap.size]? = some (.cells zeroTok 56 (0,0)) by rw [hw6];exact E5.out.2))
   clear hw6 c0 c1
   go_wp2_with fail
   refine (dig.out _).mono ?_
   rintro e w5 ⟨rfl,rfl⟩
   go_wp2_with fail
   refine (let'.out _).mono ?_
   rintro e w5 ⟨rfl,rfl⟩
   go_wp2_with fail
   refine (sign_any b s q _ HS.out hlt (Rd.refl G.out.1.here)).mono ?_
   rintro e w6 hP
   obtain ⟨tk,tn,tt,ta,ev,q2,rfl,hR6,hfin⟩ := ItP_form hP
   have E6 := Asd.mk (And.intro (Rd.trans G.out.1 hR6) (hR6.blk (k := w.heap.size) (by omega) G.out.2))
   have HF := Asd.mk hfin
   clear hP hR6 hfin
   have hz6 := E6.out.2
   have z0 : w6.cell? ⟨w.heap.size,0,none⟩ = some (.int .i64 0) := cell_of hz6 0
   have z1 : w6.cell? ⟨w.heap.size,1,none⟩ = some (.int .i64 0) := cell_of hz6 1
   have z2 : w6.cell? ⟨w.heap.size,2,none⟩ = some (.string ⟨#[]⟩) := cell_of hz6 2
   have z3 : w6.cell? ⟨w.heap.size,3,none⟩ = some (.int .i64 0) := cell_of hz6 3
   have f0 : w6.frozen? ⟨w.heap.size,0,none⟩ = false := free_of hz6 0
   have f1 : w6.frozen? ⟨w.heap.size,1,none⟩ = false := free_of hz6 1
   have f2 : w6.frozen? ⟨w.heap.size,2,none⟩ = false := free_of hz6 2
   have f3 : w6.frozen? ⟨w.heap.size,3,none⟩ = false := free_of hz6 3
   clear hz6
   go_wp2_with fail
   refine tok_ret E6.out.1 E6.out.2 rfl ?_
   intro Wf hR y0 y1 y2 y3
   exact bodyPost_ret (v := .tuple #[.agg #[.int .i64 tk,.int .i64 tn,.string tt,.int .i64 ta],ev]) (by simp [results,Tryz.results44,go_sem,y0,y1,y2,y3]) rfl (HF.out _ _ hR)
 ·have hqq : q = s.size := by omega
  obtain rfl : I = .tok 0 0 [] 0 := by rw [← HI.out];unfold itemE;rw [if_pos (by rw [rest_len];omega)]
  have hne : ((q : Int) == (s.size : Int)) = true := by rw [beq_iff_eq];omega
  have hne2 : (q == s.size) = true := by rw [beq_iff_eq];omega
  have HX := Asd.mk hqq
  clear hqq HI
  go_wp2_with fail
  go_quiet (fail)
  clear hne hne2 c0 c1
  have E5 := Asd.mk (And.intro (E.out.1.drewN nq) (show (w4.drewN nq).heap[w.heap.size]? = some (.cells zeroTok 56 (0,0)) from E.out.2))
  generalize w4.drewN nq = w5 at E5 ⊢
  have hz5 := E5.out.2
  have c1 := E5.out.1.c1
  have z0 : w5.cell? ⟨w.heap.size,0,none⟩ = some (.int .i64 0) := cell_of hz5 0
  have z1 : w5.cell? ⟨w.heap.size,1,none⟩ = some (.int .i64 0) := cell_of hz5 1
  have z2 : w5.cell? ⟨w.heap.size,2,none⟩ = some (.string ⟨#[]⟩) := cell_of hz5 2
  have z3 : w5.cell? ⟨w.heap.size,3,none⟩ = some (.int .i64 0) := cell_of hz5 3
  have f0 : w5.frozen? ⟨w.heap.size,0,none⟩ = false := free_of hz5 0
  have f1 : w5.frozen? ⟨w.heap.size,1,none⟩ = false := free_of hz5 1
  have f2 : w5.frozen? ⟨w.heap.size,2,none⟩ = false := free_of hz5 2
  have f3 : w5.frozen? ⟨w.heap.size,3,none⟩ = false := free_of hz5 3
  clear hz5
  go_wp2_with fail
  refine tok_ret E5.out.1 E5.out.2 rfl ?_
  intro Wf hR y0 y1 y2 y3
  exact bodyPost_ret (v := .tuple #[tokV 0 0 (bytesOf []) q,.nilIface]) (by simp [results,Tryz.results44,go_sem,y0,y1,y2,y3,tokV,bytesOf]) rfl ⟨rfl,hR⟩
structure Tk where
 k : Int
 n : Int
 t : List UInt8
 a : Nat
inductive Out where
  | ok (ts : List Tk)
  | bad (c : Int) (a : Nat)
def lexF : Nat -> List UInt8 -> Nat -> List Tk -> Out
 | 0,_,_,_ => .bad 0 0
 | f + 1,l,p,acc =>
  match itemE (l.drop (gapN false l)) with
  | .bad c o => .bad c (p + gapN false l + o)
  | .tok k n t wd => if (k == 0) = true then .ok (acc ++ [⟨k,n,t,p + gapN false l⟩]) else lexF f (l.drop (gapN false l + wd)) (p + gapN false l + wd) (acc ++ [⟨k,n,t,p + gapN false l⟩])
def lexL (l : List UInt8) : Out := lexF (l.length + 1) l 0 []
def lexAll (l : List UInt8) : Out := if 65536 < l.length then .bad 6 0 else lexL l
theorem runN_pos {q : Int -> Bool} {l : List UInt8} (h : q (bI l 0) = true) (hl : 0 < l.length) : 1 ≤ runN q l := by
 match l,hl with
 | c :: r,_ =>
  have : q (c.toNat : Int) = true := h
  rw [runN,if_pos this]
  omega
theorem textF_wd : ∀ (f : Nat) (l : List UInt8) (off : Nat) (acc : List UInt8) (k n : Int) (t : List UInt8) (wd : Nat),textF f l off acc = .tok k n t wd -> k = 2 ∧ n = 0 ∧ (acc.length ≤ 40 -> t.length ≤ 40) ∧ off + 1 ≤ wd ∧ wd ≤ off + l.length
 | 0,_,_,_,_,_,_,_,h => by simp [textF] at h
 | f + 1,[],off,acc,k,n,t,wd,h => by simp [textF] at h
 | f + 1,c :: r,off,acc,k,n,t,wd,h => by
  obtain ⟨m,hm1,hm2,_,_⟩ := elemE_ok (c :: r) (by simp)
  simp only [textF] at h
  split at h
  ·cases h
   exact ⟨rfl,rfl,fun h => h,by omega,by simp⟩
  ·split at h
   ·cases h
   ·rename_i h0
    split at h
    ·cases h
    ·rename_i h40
     have := textF_wd f _ _ _ _ _ _ _ h
     simp only [List.length_append,List.length_drop,List.length_cons,List.length_nil] at this
     rw [hm1] at this h0
     simp only [List.length_cons] at hm2
     have hm0 : m ≠ 0 := fun e => h0 (by rw [e];rfl)
     exact ⟨this.1,this.2.1,fun ha => this.2.2.1 (by omega),by have := this.2.2.2.1;omega,by have := this.2.2.2.2;simp at this ⊢;omega⟩
theorem itemE_ok {l : List UInt8} {k n : Int} {t : List UInt8} {wd : Nat} (h : itemE l = .tok k n t wd) :
  wd ≤ l.length ∧ ((k == 0) = true -> l = [] ∧ n = 0 ∧ t = [] ∧ wd = 0) ∧ ((k == 0) = false -> 1 ≤ wd) ∧ t.length ≤ 65536 + l.length := by
 unfold itemE at h
 split at h
 ·rename_i h0
  cases h
  exact ⟨Nat.zero_le _,fun _ => ⟨List.eq_nil_of_length_eq_zero h0,rfl,rfl,rfl⟩,fun h => by simp at h,by simp⟩
 ·rename_i h0
  have h0 : 0 < l.length := by omega
  unfold itemI at h
  split at h
  ·rename_i hd
   have h1 := runN_pos hd h0
   have h2 := runN_le digB l
   unfold numI at h
   split at h
   ·cases h
   ·split at h
    ·cases h
     exact ⟨h2,fun h => by simp at h,fun _ => h1,by simp⟩
    ·cases h
  ·split at h
   ·rename_i hl
    have h1 : 1 ≤ runN alnB l := runN_pos (q := alnB) (by unfold alnB;rw [hl];rfl) h0
    have h2 := runN_le alnB l
    unfold wordI at h
    split at h
    ·cases h
    ·split at h
     ·cases h
      exact ⟨h2,fun h => by simp at h,fun _ => h1,by rw [List.length_take];omega⟩
     ·split at h
      ·cases h
       exact ⟨h2,fun h => by simp at h,fun _ => h1,by rw [List.length_take];omega⟩
      ·cases h
   ·split at h
    ·unfold textI at h
     have := textF_wd _ _ _ _ _ _ _ _ h
     rw [List.length_drop] at this
     obtain ⟨rfl,_,h3,h5,h6⟩ := this
     exact ⟨by omega,fun h => by simp at h,fun _ => by omega,by have := h3 (by simp);omega⟩
    ·unfold signI at h
     split at h
     ·cases h
     ·rename_i hz
      obtain ⟨m,hm1,hm2⟩ := sgnW_nat l h0
      cases h
      rw [hm1] at hz ⊢
      refine ⟨by simp;omega,fun h => by simp at h,fun _ => ?_,by rw [List.length_take];omega⟩
      have : m ≠ 0 := fun e => hz (by rw [e];rfl)
      simp
      omega
def Tk.cells (x : Tk) : List Value := [.int .i64 x.k,.int .i64 x.n,.string (bytesOf x.t),.int .i64 x.a]
def flat (ts : List Tk) : List Value := ts.flatMap Tk.cells
theorem flat_snoc (ts : List Tk) (x : Tk) : flat (ts ++ [x]) = flat ts ++ x.cells := by simp [flat]
theorem info_tok : (Tryz.prog.info? 56).map (fun i => (i.zero,i.size,i.bytes)) = some (some (.agg #[.int .i64 0,.int .i64 0,.string ⟨#[]⟩,.int .i64 0]),4,40) := by kernel_rfl
def tkAt (ts : List Tk) (j : Nat) : Tk := ts.getD j ⟨0,0,[],0⟩
theorem flat_get : ∀ (ts : List Tk) (j i : Nat) (u : Value),j < ts.length -> (tkAt ts j).cells[i]? = some u -> (flat ts)[j * 4 + i]? = some u
 | [],j,i,u,h,_ => by simp at h
 | x :: r,0,i,u,_,h => by
  have hi : i < 4 := by
   have := (List.getElem?_eq_some_iff.1 h).1
   simpa [Tk.cells] using this
  have h' : x.cells[i]? = some u := h
  show (x.cells ++ flat r)[0 * 4 + i]? = some u
  rw [List.getElem?_append_left (by simp [Tk.cells];omega),← h']
  congr 1
  omega
 | x :: r,j + 1,i,u,h,hi => by
  have := flat_get r j i u (by simpa using h) hi
  show (x.cells ++ flat r)[(j + 1) * 4 + i]? = some u
  rw [List.getElem?_append_right (by simp [Tk.cells];omega),← this]
  congr 1
  simp [Tk.cells]
  omega
def ToksAt (w : World) (v : Value) (ts : List Tk) : Prop :=
 ts.length ≤ 65537 ∧ 0 < ts.length ∧ ∃ g cap,v = .slice (some ⟨g,0,none⟩) ts.length cap ∧ ∀ j,j < ts.length ->
  w.cell? ⟨g,j * 4,none⟩ = some (.int .i64 (tkAt ts j).k) ∧ w.cell? ⟨g,j * 4 + 1,none⟩ = some (.int .i64 (tkAt ts j).n) ∧
  w.cell? ⟨g,j * 4 + 2,none⟩ = some (.string (bytesOf (tkAt ts j).t)) ∧ w.cell? ⟨g,j * 4 + 3,none⟩ = some (.int .i64 (tkAt ts j).a)
theorem below_cellAt {w w' : World} (h : Below w.heap.size w w') {a : Addr} {v : Value} (hc : w.cell? a = some v) : w'.cell? a = some v := by
 rw [← hc]
 exact h.cell (Nat.lt_of_not_le fun hn => by simp [World.cell?,Array.getElem?_eq_none hn] at hc)
theorem toks_of_own {w : World} {base : Nat} {v : Value} {ts : List Tk} (h : w.ownsRow base 56 4 v ts.length (flat ts)) (h0 : 0 < ts.length) (h1 : ts.length ≤ 65537) : ToksAt w v ts := by
 rcases h.2 with ⟨_,h2⟩ | ⟨g,cap,cur,hv,hg,hh,_⟩
 ·omega
 ·subst hv
  have hc : ∀ j u,(flat ts)[j]? = some u -> w.cell? ⟨g,j,none⟩ = some u := fun j u hj => by
   have := h.cells (g := g) rfl j u hj
   by_cases hj0 : j = 0
   ·subst hj0;simpa [Addr.add] using this
   ·simpa [Addr.add,hj0] using this
  refine ⟨h1,h0,g,cap,rfl,fun j hj => ⟨?_,?_,?_,?_⟩⟩
  ·exact hc (j * 4) _ (flat_get ts j 0 _ hj rfl)
  ·exact hc (j * 4 + 1) _ (flat_get ts j 1 _ hj rfl)
  ·exact hc (j * 4 + 2) _ (flat_get ts j 2 _ hj rfl)
  ·exact hc (j * 4 + 3) _ (flat_get ts j 3 _ hj rfl)
def AllP (o : Out) (w : World) (e : Ending) (w' : World) : Prop :=
 match o with
 | .ok ts => ∃ v,e = .returned (.tuple #[v,.nilIface]) ∧ ToksAt w' v ts ∧ Below w.heap.size w w'
 | .bad c a => e = .returned (.tuple #[.slice none 0 0,errV c a]) ∧ Below w.heap.size w w'
def NewRow (w w' : World) (v : Value) : Prop := ∃ g n cap,v = .slice (some ⟨g,0,none⟩) n cap ∧ w.heap.size ≤ g ∧ g < w'.heap.size ∧ n ≤ cap ∧ cap ≤ maxLen
theorem new_of_own {w w0 w' : World} {e : TypeId} {s n : Nat} {v : Value} {xs : List Value} (h : w'.ownsRow w0.heap.size e s v n xs) (h0 : 0 < n) (hs : w.heap.size ≤ w0.heap.size) : NewRow w w' v := by
 rcases h.2 with ⟨_,h2⟩ | ⟨g,cap,cur,hv,hg,hh,hn,hc,_⟩
 ·omega
 ·exact ⟨g,n,cap,hv,by omega,blk_lt hh,hn,hc⟩
def AllPo (o : Out) (w : World) (e : Ending) (w' : World) : Prop := AllP o w e w' ∧ ∀ ts,o = .ok ts -> ∀ v u,e = .returned (.tuple #[v,u]) -> NewRow w w' v
theorem all_start (s : ByteArray) (w : World) (W : World) (hW : W = w.alloc (.cells #[.string s,.int .i64 0] 89)) : Rd w.heap.size s 0 W W ∧ Below w.heap.size w W := by
 subst hW
 exact ⟨Rd.refl (alloc_blk _ _),(Below.refl _ _).alloc (Nat.le_refl _) _⟩
def AllRel (R : Out) (b : Nat) (s : ByteArray) (W : World) (gk : Nat) (v : Value) (wr : World) : Prop :=
 ∃ (q : Nat) (acc : List Tk),q ≤ s.size ∧ s.size - q ≤ gk ∧ Rd b s q W wr ∧ wr.ownsRow W.heap.size 56 4 v acc.length (flat acc) ∧ acc.length ≤ q ∧ lexF (gk + 1) (rest s q) q acc = R
theorem own_below4 {wr w1 : World} {base n : Nat} {e : TypeId} {v : Value} {xs : List Value} (h : wr.ownsRow base e 4 v n xs) (hb : ∀ k,k < wr.heap.size -> base ≤ k -> w1.heap[k]? = wr.heap[k]?) : w1.ownsRow base e 4 v n xs := by
 refine ⟨h.1,?_⟩
 rcases h.2 with h2 | ⟨g,cap,cur,hv,hg,hh,r⟩
 ·exact .inl h2
 ·exact .inr ⟨g,cap,cur,hv,hg,(hb g (blk_lt hh) hg).trans hh,r⟩
theorem all_news {w : World} (x : Tk) : ∀ j u,x.cells[j]? = some u -> (w.alloc (.cells #[.int .i64 x.k,.int .i64 x.n,.string (bytesOf x.t),.int .i64 x.a] 56)).cell? ((⟨w.heap.size,0,none⟩ : Addr).add j) = some u := by
 intro j u hj
 have h := cellNew w #[.int .i64 x.k,.int .i64 x.n,.string (bytesOf x.t),.int .i64 x.a] 56 j u (by simpa [Tk.cells] using hj)
 by_cases hj0 : j = 0
 ·subst hj0;simpa [Addr.add] using h
 ·simpa [Addr.add,hj0] using h
theorem all_own (s : ByteArray) (w : World) (hs : s.size ≤ maxLen) :
  Calls Tryz.prog 24 #[.string s] w fun e w' => AllPo (lexAll s.data.toList) w e w' := by
 have HS := Asd.mk hs
 unfold maxLen at hs
 generalize hR : lexAll s.data.toList = R
 by_cases hlong : 65536 < s.size
 ·obtain rfl : R = .bad 6 0 := by rw [← hR];unfold lexAll;rw [if_pos (by rw [size_list];exact hlong)]
  clear hR
  go_enter Tryz.func24,Tryz.ntmps24
  go_wp2_with fail
  refine (lnew_any 6 0 _ rfl).mono ?_
  rintro e w1 ⟨rfl,rfl⟩
  go_wp2_with fail
  go_ret2
  exact ⟨⟨rfl,Below.refl _ _⟩,fun _ h => by cases h⟩
 have HR : Asd (lexF (s.size + 1) (rest s 0) 0 [] = R) := ⟨by rw [← hR];unfold lexAll;rw [if_neg (by rw [size_list];exact hlong)];unfold lexL;rw [size_list];rfl⟩
 clear hR
 have F := Asd.mk (all_start s w _ rfl)
 go_enter Tryz.func24,Tryz.ntmps24
 go_wp2_with fail
 generalize w.alloc (.cells #[.string s,.int .i64 0] 89) = W at F ⊢
 have E1 : Asd (AllRel R w.heap.size s W s.size (.slice none 0 0) W) := ⟨0,[],Nat.zero_le _,Nat.le_refl _,F.out.1,⟨rfl,.inl ⟨rfl,rfl⟩⟩,Nat.le_refl _,HR.out⟩
 clear HR
 go_loopg [4] s.size (fun gk v4 wr => AllRel R w.heap.size s W gk v4 wr)
 case atStart => exact E1.out
 case round =>
  clear E1
  obtain ⟨q,acc,hqs,hgk,hrd,hown,hlen,hlx⟩ := hrel
  obtain ⟨ao,cap,rfl⟩ : ∃ ao cap,u4 = .slice ao acc.length cap := by
   rcases hown.2 with ⟨hv,h0⟩ | ⟨g,cap,cur,hv,_⟩
   ·exact ⟨none,0,by rw [hv,h0]⟩
   ·exact ⟨_,_,hv⟩
  have A := Asd.mk (And.intro hrd hown)
  clear hrd hown
  have hgl := gap_le false (rest s q)
  rw [rest_len] at hgl
  simp only [lexF,rest_drop] at hlx
  obtain ⟨q1,hq1⟩ : ∃ q1,q1 = q + gapN false (rest s q) := ⟨_,rfl⟩
  rw [← hq1] at hlx
  have hw : q + (gapN false (rest s q)) = q1 := hq1.symm
  have HX := Asd.mk (next_any w.heap.size s q q1 wr HS.out hqs hq1 (Rd.refl A.out.1.here))
  have hq1s : q1 ≤ s.size := by omega
  have HQ := Asd.mk hq1
  clear hgl hw hq1
  cases hit : itemE (rest s q1) with
  | bad c o =>
   rw [hit] at hlx HX
   obtain rfl : R = .bad c (q1 + o) := hlx.symm
   clear hlx hit
   go_wp2_with fail
   refine HX.out.mono ?_
   rintro e w5 ⟨rfl,q2,hR5⟩
   have B := Asd.mk (F.out.2.trans ((A.out.1.trans hR5).of_below))
   clear hR5
   unfold noTok errV
   go_wp2_with fail
   go_ret2
   exact ⟨⟨by simp [errV],B.out.alloc (by have := B.out.size;omega) _⟩,fun _ h => by cases h⟩
  | tok k n t wd =>
   have hok := itemE_ok hit
   rw [rest_len] at hok
   rw [hit] at hlx HX
   clear hit
   obtain ⟨i0,hi,hz0,hz1,hz2⟩ := infoParts info_tok
   have hacc : acc.length ≤ 65536 := by omega
   go_wp2_with fail
   refine HX.out.mono ?_
   rintro e w5 ⟨rfl,hR5⟩
   have RD := Asd.mk (A.out.1.trans hR5)
   have own5 : w5.ownsRow W.heap.size 56 4 (.slice ao acc.length cap) acc.length (flat acc) := own_below4 A.out.2 (fun i hi hb => hR5.block i hi (by have := F.out.1.lt;omega))
   have hwd := hok.1
   have hk1 := Asd.mk hok.2.2.1
   have hfl := Asd.mk (flat_snoc acc ⟨k,n,t,q1⟩)
   clear hok hR5 HX
   have hsz5 : W.heap.size ≤ ((w5.alloc (.cells #[.int .i64 k,.int .i64 n,.string (bytesOf t),.int .i64 q1] 56)).alloc (.cells #[.int .i64 k,.int .i64 n,.string (bytesOf t),.int .i64 q1] 56)).heap.size := by have := RD.out.size;simp;omega
   unfold tokV
   go_wp2_with (at_builtin;refine wpList_append_own _ rfl _ _ 38 rfl W.heap.size 56 i0 (.agg #[.int .i64 0,.int .i64 0,.string ⟨#[]⟩,.int .i64 0]) 4 40 Tryz.underlying38 hi hz0 hz1 hz2 rfl (by decide) _ _ _ rfl ((own5.alloc _).alloc _) ⟨w5.heap.size + 1,0,none⟩ 1 1 [.int .i64 k,.int .i64 n,.string (bytesOf t),.int .i64 q1] rfl rfl ?c1 ?c2 ?c3 ?c4 ?c5 ?_)
   case c1 => 
    have := all_news (w := w5.alloc (.cells #[.int .i64 k,.int .i64 n,.string (bytesOf t),.int .i64 q1] 56)) ⟨k,n,t,q1⟩
    simpa [Tk.cells] using this
   case c2 => intro u hu;simp at hu;rcases hu with rfl | rfl | rfl | rfl <;> rfl
   case c3 => unfold maxLen;omega
   case c4 => omega
   case c5 => exact hsz5
   intro v' w6 hown6 hgrow _
   have c6 : w6.cell? ⟨w5.heap.size,0,none⟩ = some (.int .i64 k) := by
    refine (World.cell?_of_block (w := (w5.alloc (.cells #[.int .i64 k,.int .i64 n,.string (bytesOf t),.int .i64 q1] 56)).alloc (.cells #[.int .i64 k,.int .i64 n,.string (bytesOf t),.int .i64 q1] 56)) (a := ⟨w5.heap.size,0,none⟩) (hgrow.block w5.heap.size (by simp;omega) (fun e => by have := (own5.lt _ e.symm).2;omega))).trans ?_
    rw [World.cell?_alloc_lt _ _ _ (by simp)]
    exact cellNew _ _ _ 0 _ rfl
   have R6 := Asd.mk (Rd.grown ((RD.out.alloc _).alloc _) hgrow (fun k hk => (own5.lt k hk).1))
   have O6 : Asd (w6.ownsRow W.heap.size 56 4 v' (acc ++ [(⟨k,n,t,q1⟩ : Tk)]).length (flat (acc ++ [(⟨k,n,t,q1⟩ : Tk)]))) := ⟨by rw [hfl.out,List.length_append];exact hown6⟩
   have HL := Asd.mk hlx
   clear hown6 hgrow own5 hlx hfl
   rcases Bool.eq_false_or_eq_true (k == 0) with hk0 | hk0
   ·obtain rfl : R = .ok (acc ++ [⟨k,n,t,q1⟩]) := by rw [← HL.out,if_pos hk0]
    have B := Asd.mk (F.out.2.trans (R6.out.of_below))
    clear HL
    go_wp2_with fail
    go_ret2
    exact ⟨⟨v',rfl,toks_of_own O6.out (by simp) (by simp;omega),B.out⟩,fun ts e v u h => by
     simp at h
     obtain ⟨rfl,rfl⟩ := h
     exact new_of_own O6.out (by simp) F.out.2.size⟩
   ·have HT : Asd (lexF gk (rest s (q1 + wd)) (q1 + wd) (acc ++ [⟨k,n,t,q1⟩]) = R) := ⟨by
     rw [← HL.out,if_neg (by rw [hk0];simp),← Nat.add_assoc,← HQ.out]⟩
    have hwd1 := hk1.out hk0
    clear HL
    go_wp2_with fail
    go_roundg (gk - 1)
    case measure => have := HQ.out;omega
    case rel => exact ⟨q1 + wd,acc ++ [⟨k,n,t,q1⟩],by omega,by have := HQ.out;omega,R6.out,O6.out,by have := HQ.out;simp;omega,by rw [show gk - 1 + 1 = gk by have := HQ.out;omega];exact HT.out⟩
theorem lexF_bad {f : Nat} {l : List UInt8} {p : Nat} {acc : List Tk} {c : Int} {o : Nat} (h : itemE (l.drop (gapN false l)) = .bad c o) : lexF (f + 1) l p acc = .bad c (p + gapN false l + o) := by
 simp only [lexF,h]
theorem lexF_end {f : Nat} {l : List UInt8} {p : Nat} {acc : List Tk} {k n : Int} {t : List UInt8} {wd : Nat} (h : itemE (l.drop (gapN false l)) = .tok k n t wd) (hk : (k == 0) = true) : lexF (f + 1) l p acc = .ok (acc ++ [⟨k,n,t,p + gapN false l⟩]) := by
 simp only [lexF,h,hk,if_true]
theorem lexF_tok {f : Nat} {l : List UInt8} {p : Nat} {acc : List Tk} {k n : Int} {t : List UInt8} {wd : Nat} (h : itemE (l.drop (gapN false l)) = .tok k n t wd) (hk : (k == 0) = false) : lexF (f + 1) l p acc = lexF f (l.drop (gapN false l + wd)) (p + gapN false l + wd) (acc ++ [⟨k,n,t,p + gapN false l⟩]) := by
 simp only [lexF,h,hk,Bool.false_eq_true,if_false]
theorem lex_shrink {l : List UInt8} {k n : Int} {t : List UInt8} {wd : Nat} (h : itemE (l.drop (gapN false l)) = .tok k n t wd) (hk : (k == 0) = false) : 1 ≤ wd ∧ gapN false l + wd ≤ l.length := by
 have hok := itemE_ok h
 rw [List.length_drop] at hok
 have := hok.2.2.1 hk
 have := gap_le false l
 omega
theorem lexF_fuel : ∀ (f f' : Nat) (l : List UInt8) (p : Nat) (acc : List Tk),l.length < f -> l.length < f' -> lexF f l p acc = lexF f' l p acc
 | 0,_,_,_,_,h,_ => by omega
 | _,0,_,_,_,_,h => by omega
 | f + 1,f' + 1,l,p,acc,h,h' => by
  cases hit : itemE (l.drop (gapN false l)) with
  | bad c o => rw [lexF_bad hit,lexF_bad hit]
  | tok k n t wd =>
   rcases Bool.eq_false_or_eq_true (k == 0) with hk | hk
   ·rw [lexF_end hit hk,lexF_end hit hk]
   ·have := lex_shrink hit hk
    rw [lexF_tok hit hk,lexF_tok hit hk]
    exact lexF_fuel f f' _ _ _ (by rw [List.length_drop];omega) (by rw [List.length_drop];omega)
end Go.Proofs.YtkoabcncdjmoeaaGreatDoor

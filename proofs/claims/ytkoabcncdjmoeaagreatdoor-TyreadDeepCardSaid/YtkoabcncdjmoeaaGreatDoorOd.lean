/- The document's lexer: text. -/
import Derived.Test.YtkoabcncdjmoeaaGreatDoorOa
set_option linter.unusedSimpArgs false
set_option linter.unusedVariables false
set_option maxRecDepth 1000000
set_option maxHeartbeats 40000000
namespace Go.Proofs.YtkoabcncdjmoeaaGreatDoor
open Go.RowKit
theorem rtext_conv {o : Oper} {a : Act} {K : Act -> World -> Prop} {Q : Exit -> Act -> World -> Prop} {g : Value -> World -> Result Next} {w : World} {base : Nat} {v : Value} {acc : List UInt8}
  (hown : w.ownsRow base 5 1 v acc.length (bcells acc)) (hK : Oper.upon Tryz.prog o a K Q ((Result.ok (.string (bytesOf acc)) w).andThen g)) :
  Oper.upon Tryz.prog o a K Q (((convert 97 9 v).run Tryz.prog w).andThen g) := by
 rw [conv_own hown]
 exact hK
theorem rown_below {base n : Nat} {wr w1 : World} {e : TypeId} {v : Value} {xs : List Value} (h : wr.ownsRow base e 1 v n xs) (hb : Below wr.heap.size wr w1) : w1.ownsRow base e 1 v n xs := by
 refine ⟨h.1,?_⟩
 rcases h.2 with h2 | ⟨g,cap,cur,hv,hg,hh,r⟩
 ·exact .inl h2
 ·exact .inr ⟨g,cap,cur,hv,hg,below_blk hb hh,r⟩
theorem G8.grow {w w5 w6 : World} (h : G8 w w5) {base n : Nat} {e t : TypeId} {v : Value} {xs : List Value} {c : Array Value} (hown : w5.ownsRow base e 1 v n xs) (hg : (w5.alloc (.cells c t)).grownBy w6 v.ownBlock) (hb : w.heap.size < base) : G8 w w6 := by
 have hl := blk_lt h.blk
 refine ⟨Below.grown (h.below.alloc h.below.size _) hg (by have := h.below.size;simp;omega) (fun k hk => by have := (hown.lt k hk).1;omega),?_⟩
 rw [hg.block w.heap.size (by simp;omega) (fun e => by have := (hown.lt _ e.symm).1;omega),Below.heap_alloc _ _ _ hl]
 exact h.blk
def RTextRel (I : It) (s : ByteArray) (p : Nat) (W : World) (gk : Nat) (v v6 : Value) (wr : World) : Prop :=
 ∃ (q off : Nat) (acc : List UInt8),v6 = .int .i64 q ∧ q = p + off ∧ q ≤ s.size ∧ s.size - q ≤ gk ∧ Below W.heap.size W wr ∧ wr.ownsRow W.heap.size 5 1 v acc.length (bcells acc) ∧ acc.length ≤ 40 ∧ textF (gk + 1) (rest s q) off acc = I
theorem rtext_any (s : ByteArray) (p : Nat) (w : World) (hs : s.size ≤ 65536) (hp : p < s.size) :
  Calls Tryz.prog 64 #[.string s,.int .i64 p] w fun e w' => e = .returned (gotOf (textI (rest s p)) p) ∧ Below w.heap.size w w' := by
 generalize hI : textI (rest s p) = I
 have HI : Asd (textF (s.size - (p + 1) + 1) (rest s (p + 1)) 1 [] = I) := ⟨by rw [← hI];unfold textI;rw [rest_drop,rest_len];congr 1;omega⟩
 clear hI
 have HS := Asd.mk hs
 have F := Asd.mk (G8.start w _ rfl)
 go_enter Tryz.func64,Tryz.ntmps64
 go_wp2_with fail
 generalize (w.alloc (.cells #[.int .i64 0,.int .i64 0,.string ⟨#[]⟩,.int .i64 0,.bool false,.int .i64 0,.int .i64 0,.int .i64 0] 82)) = W at F ⊢
 have E1 : Asd (RTextRel I s p W (s.size - (p + 1)) (.slice none 0 0) (.int .i64 ((p : Int) + 1)) W) := ⟨p + 1,1,[],by congr 1,rfl,by omega,Nat.le_refl _,Below.refl _ _,⟨rfl,.inl ⟨rfl,rfl⟩⟩,by simp,HI.out⟩
 clear HI
 go_loopg [5,6] (s.size - (p + 1)) (fun gk v5 v6 wr => RTextRel I s p W gk v5 v6 wr)
 case atStart => exact E1.out
 case round =>
  clear E1
  obtain ⟨q,off,acc,rfl,hq,hqs,hgk,hbw,hown,hlen,htx⟩ := hrel
  obtain ⟨ao,cap,rfl⟩ : ∃ ao cap,u5 = .slice ao acc.length cap := by
   rcases hown.2 with ⟨hv,h0⟩ | ⟨g,cap,cur,hv,_⟩
   ·exact ⟨none,0,by rw [hv,h0]⟩
   ·exact ⟨_,_,hv⟩
  have A := Asd.mk (And.intro hbw (And.intro hown htx))
  have HQ := Asd.mk hq
  have G := Asd.mk (F.out.step (hbw.mono (Nat.le_refl _)))
  clear hbw hown htx hq
  by_cases hlt : q < s.size
  ·have TX := Asd.mk (A.out.2.2.symm.trans (textF_step gk (rest s q) off acc (by rw [rest_len];omega)))
   have hb0 : bI (rest s q) 0 = (s[q].toNat : Int) := rest_bI s q 0 (by omega)
   have hel : elemE (rest s q) = if ((s[q].toNat : Int) == 92) = true then escE (rest s q) else if plainB (s[q].toNat : Int) = true then ((s[q].toNat : Int),1) else (0,0) := by unfold elemE;rw [hb0]
   rw [hb0] at TX
   clear hb0
   have hbr := byte_le s[q]
   rcases Bool.eq_false_or_eq_true ((s[q].toNat : Int) == 34) with h34 | h34
   ·obtain rfl : I = .tok 2 0 acc (off + 1) := by rw [TX.out,h34];rfl
    clear TX hel
    have hn34 : ((s[q].toNat : Int) != 34) = false := by simp only [bne,h34,Bool.not_true]
    have hz5 := G.out.blk
    have z0 : wr.cell? ⟨w.heap.size,0,none⟩ = some (.int .i64 0) := cell_of hz5 0
    have z1 : wr.cell? ⟨w.heap.size,1,none⟩ = some (.int .i64 0) := cell_of hz5 1
    have z2 : wr.cell? ⟨w.heap.size,2,none⟩ = some (.string ⟨#[]⟩) := cell_of hz5 2
    have z3 : wr.cell? ⟨w.heap.size,3,none⟩ = some (.int .i64 0) := cell_of hz5 3
    have z4 : wr.cell? ⟨w.heap.size,4,none⟩ = some (.bool false) := cell_of hz5 4
    have z5 : wr.cell? ⟨w.heap.size,5,none⟩ = some (.int .i64 0) := cell_of hz5 5
    have z6 : wr.cell? ⟨w.heap.size,6,none⟩ = some (.int .i64 0) := cell_of hz5 6
    have z7 : wr.cell? ⟨w.heap.size,7,none⟩ = some (.int .i64 0) := cell_of hz5 7
    have f0 : wr.frozen? ⟨w.heap.size,0,none⟩ = false := free_of hz5 0
    have f1 : wr.frozen? ⟨w.heap.size,1,none⟩ = false := free_of hz5 1
    have f2 : wr.frozen? ⟨w.heap.size,2,none⟩ = false := free_of hz5 2
    have f3 : wr.frozen? ⟨w.heap.size,3,none⟩ = false := free_of hz5 3
    have f4 : wr.frozen? ⟨w.heap.size,4,none⟩ = false := free_of hz5 4
    have f5 : wr.frozen? ⟨w.heap.size,5,none⟩ = false := free_of hz5 5
    have f6 : wr.frozen? ⟨w.heap.size,6,none⟩ = false := free_of hz5 6
    have f7 : wr.frozen? ⟨w.heap.size,7,none⟩ = false := free_of hz5 7
    clear hz5
    go_wp2_with fail
    refine rtext_conv A.out.2.1 ?_
    go_wp2_with fail
    have hfin : (q : Int) + 1 = (p : Int) + ((off + 1 : Nat) : Int) := by have := HQ.out;omega
    refine got_ret G.out.below G.out.blk rfl ?_
    intro Wf hR y0 y1 y2 y3 y4 y5 y6 y7
    rw [hfin] at y5
    exact bodyPost_ret (v := gotV 2 0 (bytesOf acc) p false ((p : Int) + ((off + 1 : Nat) : Int)) 0 0) (by simp [results,Tryz.results64,go_sem,y0,y1,y2,y3,y4,y5,y6,y7,gotV,hfin]) rfl ⟨rfl,hR⟩
   have hn34 : ((s[q].toNat : Int) != 34) = true := by simp only [bne,h34,Bool.not_false]
   rw [h34] at TX
   obtain ⟨m,hm1,hm2,he0,he1⟩ := elemE_ok (rest s q) (by rw [rest_len];omega)
   rw [rest_len] at hm2
   rcases Bool.eq_false_or_eq_true ((s[q].toNat : Int) == 92) with h92 | h92
   ·rw [h92,if_pos rfl] at hel
    have XX := Asd.mk (fun w => rescape_any s q w HS.out hlt)
    rw [← hel,hm1] at XX
    rw [hm1] at TX
    generalize (elemE (rest s q)).1 = ec at XX TX he0 he1
    clear hel hm1
    by_cases hm0 : m = 0
    ·subst hm0
     obtain rfl : I = .bad 3 off := by rw [TX.out];rfl
     clear TX
     go_wp2_with fail
     refine (XX.out _).mono ?_
     rintro e w5 ⟨rfl,hb5⟩
     have G5 := Asd.mk (G.out.step hb5)
     clear hb5
     have HQQ : Asd ((q : Int) = (p : Int) + (off : Int)) := ⟨by have := HQ.out;omega⟩
     go_wp2_with fail
     refine (rbad_any 3 (q : Int) _).mono ?_
     rintro e w6 ⟨rfl,hb6⟩
     have G6 := Asd.mk (G5.out.step hb6)
     have hz6 := G6.out.blk
     have z0 : w6.cell? ⟨w.heap.size,0,none⟩ = some (.int .i64 0) := cell_of hz6 0
     have z1 : w6.cell? ⟨w.heap.size,1,none⟩ = some (.int .i64 0) := cell_of hz6 1
     have z2 : w6.cell? ⟨w.heap.size,2,none⟩ = some (.string ⟨#[]⟩) := cell_of hz6 2
     have z3 : w6.cell? ⟨w.heap.size,3,none⟩ = some (.int .i64 0) := cell_of hz6 3
     have z4 : w6.cell? ⟨w.heap.size,4,none⟩ = some (.bool false) := cell_of hz6 4
     have z5 : w6.cell? ⟨w.heap.size,5,none⟩ = some (.int .i64 0) := cell_of hz6 5
     have z6 : w6.cell? ⟨w.heap.size,6,none⟩ = some (.int .i64 0) := cell_of hz6 6
     have z7 : w6.cell? ⟨w.heap.size,7,none⟩ = some (.int .i64 0) := cell_of hz6 7
     have f0 : w6.frozen? ⟨w.heap.size,0,none⟩ = false := free_of hz6 0
     have f1 : w6.frozen? ⟨w.heap.size,1,none⟩ = false := free_of hz6 1
     have f2 : w6.frozen? ⟨w.heap.size,2,none⟩ = false := free_of hz6 2
     have f3 : w6.frozen? ⟨w.heap.size,3,none⟩ = false := free_of hz6 3
     have f4 : w6.frozen? ⟨w.heap.size,4,none⟩ = false := free_of hz6 4
     have f5 : w6.frozen? ⟨w.heap.size,5,none⟩ = false := free_of hz6 5
     have f6 : w6.frozen? ⟨w.heap.size,6,none⟩ = false := free_of hz6 6
     have f7 : w6.frozen? ⟨w.heap.size,7,none⟩ = false := free_of hz6 7
     clear hz6 hb6
     unfold gotV
     go_wp2_with fail
     refine got_ret G6.out.below G6.out.blk rfl ?_
     intro Wf hR y0 y1 y2 y3 y4 y5 y6 y7
     exact bodyPost_ret (v := gotV 0 0 ⟨#[]⟩ 0 false 0 3 ((p : Int) + ((off : Nat) : Int))) (by simp [results,Tryz.results64,go_sem,y0,y1,y2,y3,y4,y5,y6,y7,gotV,HQQ.out]) rfl ⟨rfl,hR⟩
    ·have hm00 : ((m : Int) == 0) = false := by rw [beq_eq_false_iff_ne];omega
     rw [hm00] at TX
     simp only [Bool.false_eq_true,if_false] at TX
     by_cases h40 : acc.length = 40
     ·obtain rfl : I = .bad 6 0 := by rw [TX.out,if_pos h40]
      have H40 := Asd.mk h40
      clear TX h40
      obtain ⟨i0,hi,hz0,hz1,hz2⟩ := infoParts info_u8
      go_wp2_with fail
      refine (XX.out _).mono ?_
      rintro e w5 ⟨rfl,hb5⟩
      have own5 : w5.ownsRow W.heap.size 5 1 (.slice ao acc.length cap) acc.length (bcells acc) := rown_below A.out.2.1 hb5
      have B5 : Below W.heap.size W w5 := A.out.1.trans (hb5.mono A.out.1.size)
      have G5 := Asd.mk (G.out.step hb5)
      have FB := Asd.mk (blk_lt F.out.blk)
      clear hb5
      go_wp2_with (at_builtin;refine wpList_append_own _ rfl _ _ 97 rfl W.heap.size 5 i0 (.int .u8 0) 1 1 Tryz.underlying97 hi hz0 hz1 hz2 rfl (by decide) _ _ _ rfl (own5.alloc _) ⟨w5.heap.size,0,none⟩ 1 1 [.int .u8 ec] rfl rfl (text_news (ec)) (by intro u hu;simp at hu;subst hu;rfl) (by unfold maxLen;omega) (by omega) (by have := B5.size;simp;omega) ?_)
      intro v' w6 hown6 hgrow _
      obtain ⟨ao6,cap6,rfl⟩ : ∃ ao cap,v' = .slice ao (acc.length + 1) cap := by
       rcases hown6.2 with ⟨hv,h0⟩ | ⟨g,cap,cur,hv,_⟩
       ·omega
       ·exact ⟨_,_,hv⟩
      have h41 : (40 : Int) < (acc.length : Int) + 1 := by have := H40.out;omega
      have G6 := Asd.mk (G8.grow G5.out own5 hgrow FB.out)
      clear hown6 hgrow
      go_wp2_with fail
      refine (rbad_any 6 p _).mono ?_
      rintro e w7 ⟨rfl,hb7⟩
      have G7 := Asd.mk (G6.out.step hb7)
      have hz7 := G7.out.blk
      have z0 : w7.cell? ⟨w.heap.size,0,none⟩ = some (.int .i64 0) := cell_of hz7 0
      have z1 : w7.cell? ⟨w.heap.size,1,none⟩ = some (.int .i64 0) := cell_of hz7 1
      have z2 : w7.cell? ⟨w.heap.size,2,none⟩ = some (.string ⟨#[]⟩) := cell_of hz7 2
      have z3 : w7.cell? ⟨w.heap.size,3,none⟩ = some (.int .i64 0) := cell_of hz7 3
      have z4 : w7.cell? ⟨w.heap.size,4,none⟩ = some (.bool false) := cell_of hz7 4
      have z5 : w7.cell? ⟨w.heap.size,5,none⟩ = some (.int .i64 0) := cell_of hz7 5
      have z6 : w7.cell? ⟨w.heap.size,6,none⟩ = some (.int .i64 0) := cell_of hz7 6
      have z7 : w7.cell? ⟨w.heap.size,7,none⟩ = some (.int .i64 0) := cell_of hz7 7
      have f0 : w7.frozen? ⟨w.heap.size,0,none⟩ = false := free_of hz7 0
      have f1 : w7.frozen? ⟨w.heap.size,1,none⟩ = false := free_of hz7 1
      have f2 : w7.frozen? ⟨w.heap.size,2,none⟩ = false := free_of hz7 2
      have f3 : w7.frozen? ⟨w.heap.size,3,none⟩ = false := free_of hz7 3
      have f4 : w7.frozen? ⟨w.heap.size,4,none⟩ = false := free_of hz7 4
      have f5 : w7.frozen? ⟨w.heap.size,5,none⟩ = false := free_of hz7 5
      have f6 : w7.frozen? ⟨w.heap.size,6,none⟩ = false := free_of hz7 6
      have f7 : w7.frozen? ⟨w.heap.size,7,none⟩ = false := free_of hz7 7
      clear hz7 hb7
      unfold gotV
      go_wp2_with fail
      refine got_ret G7.out.below G7.out.blk rfl ?_
      intro Wf hR y0 y1 y2 y3 y4 y5 y6 y7
      exact bodyPost_ret (v := gotV 0 0 ⟨#[]⟩ 0 false 0 6 ((p : Int) + ((0 : Nat) : Int))) (by simp [results,Tryz.results64,go_sem,y0,y1,y2,y3,y4,y5,y6,y7,gotV]) rfl ⟨rfl,hR⟩
     ·have TZ : Asd (textF gk (rest s (q + m)) (off + m) (acc ++ [UInt8.ofNat (ec).toNat]) = I) := ⟨by first | (rw [TX.out,if_neg h40,rest_drop];done) | (rw [TX.out,if_neg h40,rest_drop];rfl)⟩
      obtain ⟨i0,hi,hz0,hz1,hz2⟩ := infoParts info_u8
      have HB := Asd.mk (bcells_snoc acc (ec) he0 he1)
      go_wp2_with fail
      refine (XX.out _).mono ?_
      rintro e w5 ⟨rfl,hb5⟩
      have own5 : w5.ownsRow W.heap.size 5 1 (.slice ao acc.length cap) acc.length (bcells acc) := rown_below A.out.2.1 hb5
      have B5 : Below W.heap.size W w5 := A.out.1.trans (hb5.mono A.out.1.size)
      have G5 := Asd.mk (G.out.step hb5)
      have FB := Asd.mk (blk_lt F.out.blk)
      clear hb5
      go_wp2_with (at_builtin;refine wpList_append_own _ rfl _ _ 97 rfl W.heap.size 5 i0 (.int .u8 0) 1 1 Tryz.underlying97 hi hz0 hz1 hz2 rfl (by decide) _ _ _ rfl (own5.alloc _) ⟨w5.heap.size,0,none⟩ 1 1 [.int .u8 ec] rfl rfl (text_news (ec)) (by intro u hu;simp at hu;subst hu;rfl) (by unfold maxLen;omega) (by omega) (by have := B5.size;simp;omega) ?_)
      intro v' w6 hown6 hgrow _
      obtain ⟨ao6,cap6,rfl⟩ : ∃ ao cap,v' = .slice ao (acc.length + 1) cap := by
       rcases hown6.2 with ⟨hv,h0⟩ | ⟨g,cap,cur,hv,_⟩
       ·omega
       ·exact ⟨_,_,hv⟩
      have h41 : ¬ (40 : Int) < (acc.length : Int) + 1 := by omega
      have R6 := Asd.mk (Below.grown (B5.alloc (B5.size) (.cells #[.int .u8 ec] 5)) hgrow (by have := B5.size;simp;omega) (fun k hk => (own5.lt k hk).1))
      have O6 := Asd.mk hown6
      clear hown6 hgrow
      go_wp2_with fail
      go_roundg (gk - 1)
      case measure => omega
      case rel => exact ⟨q + m,off + m,acc ++ [UInt8.ofNat (ec).toNat],by go_num,by have := HQ.out;omega,by omega,by omega,R6.out,by
        rw [List.length_append,HB.out];exact O6.out,by rw [List.length_append];simp;omega,by rw [show gk - 1 + 1 = gk by omega];exact TZ.out⟩
   ·rw [h92,if_neg (by simp)] at hel
    rcases Bool.eq_false_or_eq_true (plainB (s[q].toNat : Int)) with hpl | hpl
    ·rw [hpl,if_pos rfl] at hel
     rw [hel] at TX hm1
     have hm1' : m = 1 := by simp only at hm1;omega
     subst hm1'
     have hpr : 32 ≤ (s[q].toNat : Int) ∧ (s[q].toNat : Int) ≤ 126 := by simpa [plainB] using hpl
     obtain ⟨hpr1,hpr2⟩ := hpr
     have TX : Asd (I = if acc.length = 40 then .bad 6 0 else textF gk ((rest s q).drop 1) (off + 1) (acc ++ [UInt8.ofNat (s[q].toNat : Int).toNat])) := ⟨TX.out⟩
     clear hel hm1 he0 he1 hpl
     obtain ⟨ec,hec⟩ : ∃ ec : Int,ec = (s[q].toNat : Int) := ⟨_,rfl⟩
     rw [← hec] at TX
     have he0 : 0 ≤ ec := by omega
     have he1 : ec ≤ 255 := by omega
     have HEC := Asd.mk hec
     clear hec
     by_cases h40 : acc.length = 40
     ·obtain rfl : I = .bad 6 0 := by rw [TX.out,if_pos h40]
      have H40 := Asd.mk h40
      clear TX h40
      obtain ⟨i0,hi,hz0,hz1,hz2⟩ := infoParts info_u8
      have own5 : wr.ownsRow W.heap.size 5 1 (.slice ao acc.length cap) acc.length (bcells acc) := A.out.2.1
      have B5 : Below W.heap.size W wr := A.out.1
      have FB := Asd.mk (blk_lt F.out.blk)
      go_wp2_with (at_builtin;refine wpList_append_own _ rfl _ _ 97 rfl W.heap.size 5 i0 (.int .u8 0) 1 1 Tryz.underlying97 hi hz0 hz1 hz2 rfl (by decide) _ _ _ rfl (own5.alloc _) ⟨wr.heap.size,0,none⟩ 1 1 [.int .u8 (s[q].toNat : Int)] rfl rfl (text_news (s[q].toNat : Int)) (by intro u hu;simp at hu;subst hu;rfl) (by unfold maxLen;omega) (by omega) (by have := B5.size;simp;omega) ?_)
      intro v' w6 hown6 hgrow _
      obtain ⟨ao6,cap6,rfl⟩ : ∃ ao cap,v' = .slice ao (acc.length + 1) cap := by
       rcases hown6.2 with ⟨hv,h0⟩ | ⟨g,cap,cur,hv,_⟩
       ·omega
       ·exact ⟨_,_,hv⟩
      have h41 : (40 : Int) < (acc.length : Int) + 1 := by have := H40.out;omega
      have G6 := Asd.mk (G8.grow G.out own5 hgrow FB.out)
      clear hown6 hgrow
      go_wp2_with fail
      refine (rbad_any 6 p _).mono ?_
      rintro e w7 ⟨rfl,hb7⟩
      have G7 := Asd.mk (G6.out.step hb7)
      have hz7 := G7.out.blk
      have z0 : w7.cell? ⟨w.heap.size,0,none⟩ = some (.int .i64 0) := cell_of hz7 0
      have z1 : w7.cell? ⟨w.heap.size,1,none⟩ = some (.int .i64 0) := cell_of hz7 1
      have z2 : w7.cell? ⟨w.heap.size,2,none⟩ = some (.string ⟨#[]⟩) := cell_of hz7 2
      have z3 : w7.cell? ⟨w.heap.size,3,none⟩ = some (.int .i64 0) := cell_of hz7 3
      have z4 : w7.cell? ⟨w.heap.size,4,none⟩ = some (.bool false) := cell_of hz7 4
      have z5 : w7.cell? ⟨w.heap.size,5,none⟩ = some (.int .i64 0) := cell_of hz7 5
      have z6 : w7.cell? ⟨w.heap.size,6,none⟩ = some (.int .i64 0) := cell_of hz7 6
      have z7 : w7.cell? ⟨w.heap.size,7,none⟩ = some (.int .i64 0) := cell_of hz7 7
      have f0 : w7.frozen? ⟨w.heap.size,0,none⟩ = false := free_of hz7 0
      have f1 : w7.frozen? ⟨w.heap.size,1,none⟩ = false := free_of hz7 1
      have f2 : w7.frozen? ⟨w.heap.size,2,none⟩ = false := free_of hz7 2
      have f3 : w7.frozen? ⟨w.heap.size,3,none⟩ = false := free_of hz7 3
      have f4 : w7.frozen? ⟨w.heap.size,4,none⟩ = false := free_of hz7 4
      have f5 : w7.frozen? ⟨w.heap.size,5,none⟩ = false := free_of hz7 5
      have f6 : w7.frozen? ⟨w.heap.size,6,none⟩ = false := free_of hz7 6
      have f7 : w7.frozen? ⟨w.heap.size,7,none⟩ = false := free_of hz7 7
      clear hz7 hb7
      unfold gotV
      go_wp2_with fail
      refine got_ret G7.out.below G7.out.blk rfl ?_
      intro Wf hR y0 y1 y2 y3 y4 y5 y6 y7
      exact bodyPost_ret (v := gotV 0 0 ⟨#[]⟩ 0 false 0 6 ((p : Int) + ((0 : Nat) : Int))) (by simp [results,Tryz.results64,go_sem,y0,y1,y2,y3,y4,y5,y6,y7,gotV]) rfl ⟨rfl,hR⟩
     ·have TZ : Asd (textF gk (rest s (q + 1)) (off + 1) (acc ++ [UInt8.ofNat (ec).toNat]) = I) := ⟨by first | (rw [TX.out,if_neg h40,rest_drop];done) | (rw [TX.out,if_neg h40,rest_drop];rfl)⟩
      obtain ⟨i0,hi,hz0,hz1,hz2⟩ := infoParts info_u8
      have HB := Asd.mk (bcells_snoc acc (ec) he0 he1)
      have own5 : wr.ownsRow W.heap.size 5 1 (.slice ao acc.length cap) acc.length (bcells acc) := A.out.2.1
      have B5 : Below W.heap.size W wr := A.out.1
      have FB := Asd.mk (blk_lt F.out.blk)
      go_wp2_with (at_builtin;refine wpList_append_own _ rfl _ _ 97 rfl W.heap.size 5 i0 (.int .u8 0) 1 1 Tryz.underlying97 hi hz0 hz1 hz2 rfl (by decide) _ _ _ rfl (own5.alloc _) ⟨wr.heap.size,0,none⟩ 1 1 [.int .u8 (s[q].toNat : Int)] rfl rfl (text_news (s[q].toNat : Int)) (by intro u hu;simp at hu;subst hu;rfl) (by unfold maxLen;omega) (by omega) (by have := B5.size;simp;omega) ?_)
      intro v' w6 hown6 hgrow _
      obtain ⟨ao6,cap6,rfl⟩ : ∃ ao cap,v' = .slice ao (acc.length + 1) cap := by
       rcases hown6.2 with ⟨hv,h0⟩ | ⟨g,cap,cur,hv,_⟩
       ·omega
       ·exact ⟨_,_,hv⟩
      have h41 : ¬ (40 : Int) < (acc.length : Int) + 1 := by omega
      have R6 := Asd.mk (Below.grown (B5.alloc (B5.size) (.cells #[.int .u8 (s[q].toNat : Int)] 5)) hgrow (by have := B5.size;simp;omega) (fun k hk => (own5.lt k hk).1))
      have O6 := Asd.mk hown6
      clear hown6 hgrow
      go_wp2_with fail
      go_roundg (gk - 1)
      case measure => omega
      case rel => exact ⟨q + 1,off + 1,acc ++ [UInt8.ofNat (ec).toNat],by go_num,by have := HQ.out;omega,by omega,by omega,R6.out,by
        rw [List.length_append,HB.out,HEC.out];exact O6.out,by rw [List.length_append];simp;omega,by rw [show gk - 1 + 1 = gk by omega];exact TZ.out⟩
    ·rw [hpl,if_neg (by simp)] at hel
     rw [hel] at TX
     obtain rfl : I = .bad 3 off := by rw [TX.out];rfl
     have hnp : ¬ (32 ≤ (s[q].toNat : Int) ∧ (s[q].toNat : Int) ≤ 126) := by simpa [plainB] using hpl
     clear TX hel hm1 hm2 he0 he1 hpl
     have HQQ : Asd ((q : Int) = (p : Int) + (off : Int)) := ⟨by have := HQ.out;omega⟩
     by_cases h32 : (s[q].toNat : Int) < 32
     ·go_wp2_with fail
      refine (rbad_any 3 (q : Int) _).mono ?_
      rintro e w6 ⟨rfl,hb6⟩
      have G6 := Asd.mk (G.out.step hb6)
      have hz6 := G6.out.blk
      have z0 : w6.cell? ⟨w.heap.size,0,none⟩ = some (.int .i64 0) := cell_of hz6 0
      have z1 : w6.cell? ⟨w.heap.size,1,none⟩ = some (.int .i64 0) := cell_of hz6 1
      have z2 : w6.cell? ⟨w.heap.size,2,none⟩ = some (.string ⟨#[]⟩) := cell_of hz6 2
      have z3 : w6.cell? ⟨w.heap.size,3,none⟩ = some (.int .i64 0) := cell_of hz6 3
      have z4 : w6.cell? ⟨w.heap.size,4,none⟩ = some (.bool false) := cell_of hz6 4
      have z5 : w6.cell? ⟨w.heap.size,5,none⟩ = some (.int .i64 0) := cell_of hz6 5
      have z6 : w6.cell? ⟨w.heap.size,6,none⟩ = some (.int .i64 0) := cell_of hz6 6
      have z7 : w6.cell? ⟨w.heap.size,7,none⟩ = some (.int .i64 0) := cell_of hz6 7
      have f0 : w6.frozen? ⟨w.heap.size,0,none⟩ = false := free_of hz6 0
      have f1 : w6.frozen? ⟨w.heap.size,1,none⟩ = false := free_of hz6 1
      have f2 : w6.frozen? ⟨w.heap.size,2,none⟩ = false := free_of hz6 2
      have f3 : w6.frozen? ⟨w.heap.size,3,none⟩ = false := free_of hz6 3
      have f4 : w6.frozen? ⟨w.heap.size,4,none⟩ = false := free_of hz6 4
      have f5 : w6.frozen? ⟨w.heap.size,5,none⟩ = false := free_of hz6 5
      have f6 : w6.frozen? ⟨w.heap.size,6,none⟩ = false := free_of hz6 6
      have f7 : w6.frozen? ⟨w.heap.size,7,none⟩ = false := free_of hz6 7
      clear hz6 hb6
      unfold gotV
      go_wp2_with fail
      refine got_ret G6.out.below G6.out.blk rfl ?_
      intro Wf hR y0 y1 y2 y3 y4 y5 y6 y7
      exact bodyPost_ret (v := gotV 0 0 ⟨#[]⟩ 0 false 0 3 ((p : Int) + ((off : Nat) : Int))) (by simp [results,Tryz.results64,go_sem,y0,y1,y2,y3,y4,y5,y6,y7,gotV,HQQ.out]) rfl ⟨rfl,hR⟩
     ·have h126 : 126 < (s[q].toNat : Int) := by omega
      go_wp2_with fail
      refine (rbad_any 3 (q : Int) _).mono ?_
      rintro e w6 ⟨rfl,hb6⟩
      have G6 := Asd.mk (G.out.step hb6)
      have hz6 := G6.out.blk
      have z0 : w6.cell? ⟨w.heap.size,0,none⟩ = some (.int .i64 0) := cell_of hz6 0
      have z1 : w6.cell? ⟨w.heap.size,1,none⟩ = some (.int .i64 0) := cell_of hz6 1
      have z2 : w6.cell? ⟨w.heap.size,2,none⟩ = some (.string ⟨#[]⟩) := cell_of hz6 2
      have z3 : w6.cell? ⟨w.heap.size,3,none⟩ = some (.int .i64 0) := cell_of hz6 3
      have z4 : w6.cell? ⟨w.heap.size,4,none⟩ = some (.bool false) := cell_of hz6 4
      have z5 : w6.cell? ⟨w.heap.size,5,none⟩ = some (.int .i64 0) := cell_of hz6 5
      have z6 : w6.cell? ⟨w.heap.size,6,none⟩ = some (.int .i64 0) := cell_of hz6 6
      have z7 : w6.cell? ⟨w.heap.size,7,none⟩ = some (.int .i64 0) := cell_of hz6 7
      have f0 : w6.frozen? ⟨w.heap.size,0,none⟩ = false := free_of hz6 0
      have f1 : w6.frozen? ⟨w.heap.size,1,none⟩ = false := free_of hz6 1
      have f2 : w6.frozen? ⟨w.heap.size,2,none⟩ = false := free_of hz6 2
      have f3 : w6.frozen? ⟨w.heap.size,3,none⟩ = false := free_of hz6 3
      have f4 : w6.frozen? ⟨w.heap.size,4,none⟩ = false := free_of hz6 4
      have f5 : w6.frozen? ⟨w.heap.size,5,none⟩ = false := free_of hz6 5
      have f6 : w6.frozen? ⟨w.heap.size,6,none⟩ = false := free_of hz6 6
      have f7 : w6.frozen? ⟨w.heap.size,7,none⟩ = false := free_of hz6 7
      clear hz6 hb6
      unfold gotV
      go_wp2_with fail
      refine got_ret G6.out.below G6.out.blk rfl ?_
      intro Wf hR y0 y1 y2 y3 y4 y5 y6 y7
      exact bodyPost_ret (v := gotV 0 0 ⟨#[]⟩ 0 false 0 3 ((p : Int) + ((off : Nat) : Int))) (by simp [results,Tryz.results64,go_sem,y0,y1,y2,y3,y4,y5,y6,y7,gotV,HQQ.out]) rfl ⟨rfl,hR⟩
  ·have hI : I = .bad 5 off := by rw [← A.out.2.2,rest_end s q (by omega),textF_nil]
   obtain rfl := hI
   have HQQ : Asd ((s.size : Int) = (p : Int) + (off : Int)) := ⟨by have := HQ.out;omega⟩
   go_wp2_with fail
   refine (rbad_any 5 (s.size : Int) _).mono ?_
   rintro e w6 ⟨rfl,hb6⟩
   have G6 := Asd.mk (G.out.step hb6)
   have hz6 := G6.out.blk
   have z0 : w6.cell? ⟨w.heap.size,0,none⟩ = some (.int .i64 0) := cell_of hz6 0
   have z1 : w6.cell? ⟨w.heap.size,1,none⟩ = some (.int .i64 0) := cell_of hz6 1
   have z2 : w6.cell? ⟨w.heap.size,2,none⟩ = some (.string ⟨#[]⟩) := cell_of hz6 2
   have z3 : w6.cell? ⟨w.heap.size,3,none⟩ = some (.int .i64 0) := cell_of hz6 3
   have z4 : w6.cell? ⟨w.heap.size,4,none⟩ = some (.bool false) := cell_of hz6 4
   have z5 : w6.cell? ⟨w.heap.size,5,none⟩ = some (.int .i64 0) := cell_of hz6 5
   have z6 : w6.cell? ⟨w.heap.size,6,none⟩ = some (.int .i64 0) := cell_of hz6 6
   have z7 : w6.cell? ⟨w.heap.size,7,none⟩ = some (.int .i64 0) := cell_of hz6 7
   have f0 : w6.frozen? ⟨w.heap.size,0,none⟩ = false := free_of hz6 0
   have f1 : w6.frozen? ⟨w.heap.size,1,none⟩ = false := free_of hz6 1
   have f2 : w6.frozen? ⟨w.heap.size,2,none⟩ = false := free_of hz6 2
   have f3 : w6.frozen? ⟨w.heap.size,3,none⟩ = false := free_of hz6 3
   have f4 : w6.frozen? ⟨w.heap.size,4,none⟩ = false := free_of hz6 4
   have f5 : w6.frozen? ⟨w.heap.size,5,none⟩ = false := free_of hz6 5
   have f6 : w6.frozen? ⟨w.heap.size,6,none⟩ = false := free_of hz6 6
   have f7 : w6.frozen? ⟨w.heap.size,7,none⟩ = false := free_of hz6 7
   clear hz6 hb6
   unfold gotV
   go_wp2_with fail
   refine got_ret G6.out.below G6.out.blk rfl ?_
   intro Wf hR y0 y1 y2 y3 y4 y5 y6 y7
   exact bodyPost_ret (v := gotV 0 0 ⟨#[]⟩ 0 false 0 5 ((p : Int) + ((off : Nat) : Int))) (by simp [results,Tryz.results64,go_sem,y0,y1,y2,y3,y4,y5,y6,y7,gotV,HQQ.out]) rfl ⟨rfl,hR⟩
end Go.Proofs.YtkoabcncdjmoeaaGreatDoor

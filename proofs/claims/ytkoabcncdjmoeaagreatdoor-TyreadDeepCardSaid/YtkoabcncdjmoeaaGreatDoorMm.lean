/- (*reader).text. -/
import Derived.Laws.IdiomStrings
import Derived.Test.YtkoabcncdjmoeaaGreatDoorMl
set_option linter.unusedSimpArgs false
set_option linter.unusedVariables false
set_option maxRecDepth 1000000
set_option maxHeartbeats 40000000
namespace Go.Proofs.YtkoabcncdjmoeaaGreatDoor
open Go.RowKit
def textF : Nat -> List UInt8 -> Nat -> List UInt8 -> It
 | 0,_,_,_ => .bad 5 0
 | _ + 1,[],off,_ => .bad 5 off
 | f + 1,c :: r,off,acc =>
  if ((c.toNat : Int) == 34) = true then .tok 2 0 acc (off + 1)
  else if ((elemE (c :: r)).2 == 0) = true then .bad 3 off
  else if acc.length = 40 then .bad 6 0
  else textF f ((c :: r).drop (elemE (c :: r)).2.toNat) (off + (elemE (c :: r)).2.toNat) (acc ++ [UInt8.ofNat (elemE (c :: r)).1.toNat])
def textI (l : List UInt8) : It := textF l.length (l.drop 1) 1 []
theorem textF_nil (f off : Nat) (acc : List UInt8) : textF (f + 1) [] off acc = .bad 5 off := rfl
theorem textF_step (f : Nat) (l : List UInt8) (off : Nat) (acc : List UInt8) (h : 0 < l.length) :
  textF (f + 1) l off acc = if (bI l 0 == 34) = true then .tok 2 0 acc (off + 1) else if ((elemE l).2 == 0) = true then .bad 3 off else if acc.length = 40 then .bad 6 0
   else textF f (l.drop (elemE l).2.toNat) (off + (elemE l).2.toNat) (acc ++ [UInt8.ofNat (elemE l).1.toNat]) := by
 match l,h with
 | c :: r,_ => rfl
theorem hexE_ok (l : List UInt8) : ∃ m : Nat,(hexE l).2 = (m : Int) ∧ m ≤ l.length ∧ 0 ≤ (hexE l).1 ∧ (hexE l).1 ≤ 255 := by
 unfold hexE
 split
 ·exact ⟨0,rfl,Nat.zero_le _,by simp,by simp⟩
 ·split
  ·rename_i h1 h2
   have := hex2_range ((l.drop 2).take 2) (by rw [List.length_take,List.length_drop];omega) h2
   exact ⟨4,rfl,by omega,this.1,this.2⟩
  ·exact ⟨0,rfl,Nat.zero_le _,by simp,by simp⟩
theorem escE_ok (l : List UInt8) : ∃ m : Nat,(escE l).2 = (m : Int) ∧ m ≤ l.length ∧ 0 ≤ (escE l).1 ∧ (escE l).1 ≤ 255 := by
 unfold escE
 split
 ·exact ⟨0,rfl,Nat.zero_le _,by simp,by simp⟩
 ·rename_i h1
  split
  ·exact ⟨2,rfl,by omega,by simp,by simp⟩
  ·split
   ·exact ⟨2,rfl,by omega,by simp,by simp⟩
   ·split
    ·exact ⟨2,rfl,by omega,by simp,by simp⟩
    ·split
     ·exact hexE_ok l
     ·exact ⟨0,rfl,Nat.zero_le _,by simp,by simp⟩
theorem elemE_ok (l : List UInt8) (h : 0 < l.length) : ∃ m : Nat,(elemE l).2 = (m : Int) ∧ m ≤ l.length ∧ 0 ≤ (elemE l).1 ∧ (elemE l).1 ≤ 255 := by
 unfold elemE
 split
 ·exact escE_ok l
 ·split
  ·exact ⟨1,rfl,h,(bI_range l 0).1,(bI_range l 0).2⟩
  ·exact ⟨0,rfl,Nat.zero_le _,by simp,by simp⟩
def bcells (l : List UInt8) : List Value := l.map fun c => .int .u8 (c.toNat : Int)
theorem bcells_snoc (l : List UInt8) (c : Int) (h0 : 0 ≤ c) (h1 : c ≤ 255) : bcells (l ++ [UInt8.ofNat c.toNat]) = bcells l ++ [.int .u8 c] := by
 unfold bcells
 rw [List.map_append]
 congr 1
 simp
 omega
theorem info_u8 : (Tryz.prog.info? 5).map (fun i => (i.zero,i.size,i.bytes)) = some (some (.int .u8 0),1,1) := by kernel_rfl
theorem infoParts {j : Option TypeInfo} {z : Option Value} {s b : Nat} (h : j.map (fun i => (i.zero,i.size,i.bytes)) = some (z,s,b)) : ∃ i,j = some i ∧ i.zero = z ∧ i.size = s ∧ i.bytes = b := by
 obtain ⟨i,hi,h2⟩ := Option.map_eq_some_iff.1 h
 simp at h2
 exact ⟨i,hi,h2.1,h2.2.1,h2.2.2⟩
theorem conv_own {w : World} {base : Nat} {v : Value} {acc : List UInt8} (h : w.ownsRow base 5 1 v acc.length (bcells acc)) : (convert 97 9 v).run Tryz.prog w = .ok (.string (bytesOf acc)) w := by
 rcases h.2 with ⟨hv,h0⟩ | ⟨g,cap,cur,hv,hg,hh,_⟩
 ·obtain rfl : acc = [] := List.eq_nil_of_length_eq_zero h0
  subst hv
  rw [run_convert_bytes_string w 97 9 5 none 0 0 Tryz.underlying97 Tryz.underlying5 Tryz.underlying9]
  simp [Conv.bytesToString]
  rfl
 ·subst hv
  refine run_convert_bytes_back w 97 9 5 ⟨g,0,none⟩ cap acc Tryz.underlying97 Tryz.underlying5 Tryz.underlying9 fun j hj => ?_
  exact h.cells rfl j _ (by simp [bcells,hj])
theorem Rd.grown {b : Nat} {s : ByteArray} {p : Nat} {w w1 w2 : World} {row : Option Nat} (h : Rd b s p w w1) (hg : w1.grownBy w2 row) (hr : ∀ k,row = some k -> w.heap.size ≤ k) : Rd b s p w w2 := by
 have hlt := h.lt
 have hs := h.size
 refine ⟨hg.os.trans h.os,hg.tape.trans h.tape,hg.output.trans h.output,Nat.le_trans h.size hg.size,h.lt,fun i hi hn => ?_,?_⟩
 ·exact (hg.block i (by omega) (fun e => by have := hr i e.symm;omega)).trans (h.block i hi hn)
 ·exact (hg.block b (by omega) (fun e => by have := hr b e.symm;omega)).trans h.here
theorem own_below {w0 wr w1 : World} {base n : Nat} {e : TypeId} {v : Value} {xs : List Value} (h : wr.ownsRow base e 1 v n xs) (hb : Below w0.heap.size w0 w1) (hw : w0.heap = wr.heap := by rfl) : w1.ownsRow base e 1 v n xs := by
 refine ⟨h.1,?_⟩
 rcases h.2 with h2 | ⟨g,cap,cur,hv,hg,hh,r⟩
 ·exact .inl h2
 ·exact .inr ⟨g,cap,cur,hv,hg,below_blk hb (by rw [hw];exact hh),r⟩
theorem own_setCell {w : World} {base n : Nat} {e : TypeId} {v : Value} {xs : List Value} (h : w.ownsRow base e 1 v n xs) {a : Addr} (ha : a.block < base) (u : Value) : (w.setCell a u).ownsRow base e 1 v n xs := ownsRow_setCell_below h ha u
theorem text_news {w : World} (c : Int) : ∀ j u,[Value.int .u8 c][j]? = some u -> (w.alloc (.cells #[.int .u8 c] 5)).cell? ((⟨w.heap.size,0,none⟩ : Addr).add j) = some u := by
 intro j u hj
 match j,hj with
 | 0,hj =>
  simp at hj
  subst hj
  simp [Addr.add]
theorem text_start (b : Nat) (s : ByteArray) (p : Nat) (w : World) (h : Rd b s p w w) (W : World) (hW : W = ((w.setCell ⟨b,1,none⟩ (.int .i64 ((p : Int) + 1))).alloc (.cells #[.int .i64 0,.int .i64 0,.string ⟨#[]⟩,.int .i64 0] 56))) :
  Rd b s (p + 1) w W ∧ W.heap[w.heap.size]? = some (.cells zeroTok 56 (0,0)) := by
 subst hW
 refine ⟨(h.put (p + 1) _ (by omega)).alloc _,?_⟩
 have := alloc_blk (w.setCell ⟨b,1,none⟩ (.int .i64 ((p : Int) + 1))) (.cells #[.int .i64 0,.int .i64 0,.string ⟨#[]⟩,.int .i64 0] 56)
 rw [show (w.setCell ⟨b,1,none⟩ (.int .i64 ((p : Int) + 1))).heap.size = w.heap.size by simp [World.setCell]] at this
 exact this
theorem text_conv {o : Oper} {a : Act} {K : Act -> World -> Prop} {Q : Exit -> Act -> World -> Prop} {g : Value -> World -> Result Next} {b : Nat} {s : ByteArray} {q : Nat} {w wr : World} {cs : Array Value} {t : TypeId} {base k : Nat} {v : Value} {acc : List UInt8}
  (hR : Rd b s q w wr) (hz : wr.heap[w.heap.size]? = some (.cells cs t (0,0))) (hb : b < base) (hown : wr.ownsRow base 5 1 v acc.length (bcells acc))
  (hK : ∀ X,Rd b s (q + 1) w X -> X.heap[w.heap.size]? = some (.cells cs t (0,0)) -> Oper.upon Tryz.prog o a K Q ((Result.ok (.string (bytesOf acc)) X).andThen g)) :
  Oper.upon Tryz.prog o a K Q (((convert 97 9 v).run Tryz.prog ((wr.drewN k).setCell ⟨b,1,none⟩ (.int .i64 ((q : Int) + 1)))).andThen g) := by
 have h1 : (wr.drewN k).ownsRow base 5 1 v acc.length (bcells acc) := hown
 have hlt := hR.lt
 rw [conv_own (own_setCell h1 (a := ⟨b,1,none⟩) hb _)]
 refine hK _ ((hR.drewN k).put _ _ (by omega)) ?_
 rw [Below.heap_setCell _ _ _ _ (show w.heap.size ≠ b by omega)]
 exact hz
def TextRel (I : It) (b : Nat) (s : ByteArray) (p : Nat) (W : World) (gk : Nat) (v : Value) (wr : World) : Prop :=
 ∃ (q off : Nat) (acc : List UInt8),q = p + off ∧ q ≤ s.size ∧ s.size - q ≤ gk ∧ Rd b s q W wr ∧ wr.ownsRow W.heap.size 5 1 v acc.length (bcells acc) ∧ acc.length ≤ 40 ∧ textF (gk + 1) (rest s q) off acc = I
theorem text_any (b : Nat) (s : ByteArray) (p : Nat) (w : World) (hs : s.size ≤ maxLen) (hp : p < s.size) (h : Rd b s p w w) :
  Calls Tryz.prog 73 #[.pointer (some ⟨b,0,none⟩)] w fun e w' => ItP (textI (rest s p)) b s p w e w' := by
 generalize hI : textI (rest s p) = I
 have HI : Asd (textF (s.size - (p + 1) + 1) (rest s (p + 1)) 1 [] = I) := ⟨by rw [← hI];unfold textI;rw [rest_drop,rest_len];congr 1;omega⟩
 clear hI
 have HS := Asd.mk hs
 unfold maxLen at hs
 have F := Asd.mk (text_start b s p w h _ rfl)
 have c1 := h.c1
 have f1 := h.f1
 have hbl := h.lt
 clear h
 go_enter Tryz.func73,Tryz.ntmps73
 go_wp2_with fail
 clear c1 f1
 generalize ((w.setCell ⟨b,1,none⟩ (.int .i64 ((p : Int) + 1))).alloc (.cells #[.int .i64 0,.int .i64 0,.string ⟨#[]⟩,.int .i64 0] 56)) = W at F ⊢
 have E1 : Asd (TextRel I b s p W (s.size - (p + 1)) (.slice none 0 0) W) := ⟨p + 1,1,[],rfl,by omega,Nat.le_refl _,Rd.refl F.out.1.here,⟨rfl,.inl ⟨rfl,rfl⟩⟩,by simp,HI.out⟩
 clear HI
 have HL : Asd (w.heap.size < W.heap.size) := ⟨blk_lt F.out.2⟩
 go_loopg [5] (s.size - (p + 1)) (fun gk v5 wr => TextRel I b s p W gk v5 wr)
 case atStart => exact E1.out
 case round =>
  clear E1
  obtain ⟨q,off,acc,hq,hqs,hgk,hrd,hown,hlen,htx⟩ := hrel
  obtain ⟨ao,cap,rfl⟩ : ∃ ao cap,u5 = .slice ao acc.length cap := by
   rcases hown.2 with ⟨hv,h0⟩ | ⟨g,cap,cur,hv,_⟩
   ·exact ⟨none,0,by rw [hv,h0]⟩
   ·exact ⟨_,_,hv⟩
  have A := Asd.mk (And.intro hrd (And.intro hown htx))
  have c0 := hrd.c0;have c1 := hrd.c1;have f1 := hrd.f1
  have HQ := Asd.mk hq
  have hz := hrd.blk (k := w.heap.size) (by omega) F.out.2
  have z0 : wr.cell? ⟨w.heap.size,0,none⟩ = some (.int .i64 0) := cell_of hz 0
  have z1 : wr.cell? ⟨w.heap.size,1,none⟩ = some (.int .i64 0) := cell_of hz 1
  have z2 : wr.cell? ⟨w.heap.size,2,none⟩ = some (.string ⟨#[]⟩) := cell_of hz 2
  have z3 : wr.cell? ⟨w.heap.size,3,none⟩ = some (.int .i64 0) := cell_of hz 3
  have f0 : wr.frozen? ⟨w.heap.size,0,none⟩ = false := free_of hz 0
  have f1 : wr.frozen? ⟨w.heap.size,1,none⟩ = false := free_of hz 1
  have f2 : wr.frozen? ⟨w.heap.size,2,none⟩ = false := free_of hz 2
  have f3 : wr.frozen? ⟨w.heap.size,3,none⟩ = false := free_of hz 3
  have G := Asd.mk (And.intro (F.out.1.trans hrd) hz)
  clear hz hrd hown htx hq
  by_cases hlt : q < s.size
  ·have hd : decide (q < s.size) = true := by simpa using hlt
   have hqi : (q : Int) ≤ (s.size : Int) := by omega
   go_wp2_with fail
   go_quiet (fail)
   go_wp2_with fail
   go_quiet (fail)
   have hR1 := ext_rest s q
   have hR2 := ext_rest_size s q
   generalize s.extract q s.size = R at hR1 hR2 ⊢
   have hR0 : 0 < R.size := by omega
   have HR2 := Asd.mk hR2
   clear hR2
   have hb0 := bI_get R 0 hR0
   rw [hR1] at hb0
   have TX := Asd.mk (A.out.2.2.symm.trans (textF_step gk (rest s q) off acc (by rw [rest_len];omega)))
   rw [hb0] at TX
   clear hb0
   rcases Bool.eq_false_or_eq_true ((R[0].toNat : Int) == 34) with h34 | h34
   ·obtain rfl : I = .tok 2 0 acc (off + 1) := by rw [TX.out,h34];rfl
    clear TX
    go_wp2_with fail
    refine text_conv G.out.1 G.out.2 (by have := HL.out;omega) A.out.2.1 (fun X hX1 hX2 => ?_)
    have E5 := Asd.mk (And.intro hX1 hX2)
    clear z0 z1 z2 z3 f0 f1 f2 f3 c0 c1
    have z0 : X.cell? ⟨w.heap.size,0,none⟩ = some (.int .i64 0) := cell_of hX2 0
    have z1 : X.cell? ⟨w.heap.size,1,none⟩ = some (.int .i64 0) := cell_of hX2 1
    have z2 : X.cell? ⟨w.heap.size,2,none⟩ = some (.string ⟨#[]⟩) := cell_of hX2 2
    have z3 : X.cell? ⟨w.heap.size,3,none⟩ = some (.int .i64 0) := cell_of hX2 3
    have f0 : X.frozen? ⟨w.heap.size,0,none⟩ = false := free_of hX2 0
    have f1 : X.frozen? ⟨w.heap.size,1,none⟩ = false := free_of hX2 1
    have f2 : X.frozen? ⟨w.heap.size,2,none⟩ = false := free_of hX2 2
    have f3 : X.frozen? ⟨w.heap.size,3,none⟩ = false := free_of hX2 3
    clear hX1 hX2
    go_wp2_with fail
    have hfin : q + 1 = p + (off + 1) := by have := HQ.out;omega
    rw [hfin] at E5
    refine tok_ret E5.out.1 E5.out.2 rfl ?_
    intro Wf hR y0 y1 y2 y3
    exact bodyPost_ret (v := .tuple #[tokV 2 0 (bytesOf acc) p,.nilIface]) (by simp [results,Tryz.results73,go_sem,y0,y1,y2,y3,tokV]) rfl ⟨rfl,hR⟩
   ·obtain ⟨m,hm1,hm2,he0,he1⟩ := elemE_ok (rest s q) (by rw [rest_len];omega)
    rw [rest_len] at hm2
    have XX := Asd.mk (fun w => element_any R w (by have := HR2.out;have := HS.out;omega) hR0)
    rw [hR1,hm1] at XX
    rw [h34,hm1] at TX
    generalize (elemE (rest s q)).1 = ec at XX TX he0 he1
    clear hm1 hR1
    by_cases hm0 : m = 0
    ·subst hm0
     obtain rfl : I = .bad 3 off := by rw [TX.out];rfl
     clear TX
     go_wp2_with fail
     refine (XX.out _).mono ?_
     rintro e w5 ⟨rfl,hb5⟩
     have c1 := (hb5.cell (p := ⟨b,1,none⟩) (show b < wr.heap.size by have := G.out.1.size;omega)).trans c1
     have G5 := Asd.mk (And.intro (Rd.below (G.out.1.drewN _) hb5) (below_blk hb5 G.out.2))
     clear hb5 z0 z1 z2 z3 f0 f1 f2 f3 c0
     have hqq : (q : Int) = (p : Int) + (off : Int) := by have := HQ.out;omega
     rw [hqq] at c1
     clear hqq
     go_wp2_with fail
     refine (failed_any 3 ((p : Int) + (off : Int)) _ rfl).mono ?_
     rintro e w6 ⟨rfl,hb6⟩
     have hz6 := below_blk hb6 (G5.out.2)
     have E6 := Asd.mk (And.intro (Rd.below (G5.out.1) hb6) hz6)
     have z0 : w6.cell? ⟨w.heap.size,0,none⟩ = some (.int .i64 0) := cell_of hz6 0
     have z1 : w6.cell? ⟨w.heap.size,1,none⟩ = some (.int .i64 0) := cell_of hz6 1
     have z2 : w6.cell? ⟨w.heap.size,2,none⟩ = some (.string ⟨#[]⟩) := cell_of hz6 2
     have z3 : w6.cell? ⟨w.heap.size,3,none⟩ = some (.int .i64 0) := cell_of hz6 3
     have f0 : w6.frozen? ⟨w.heap.size,0,none⟩ = false := free_of hz6 0
     have f1 : w6.frozen? ⟨w.heap.size,1,none⟩ = false := free_of hz6 1
     have f2 : w6.frozen? ⟨w.heap.size,2,none⟩ = false := free_of hz6 2
     have f3 : w6.frozen? ⟨w.heap.size,3,none⟩ = false := free_of hz6 3
     clear hz6 hb6
     unfold noTok errV
     go_wp2_with fail
     refine tok_ret E6.out.1 E6.out.2 rfl ?_
     intro Wf hR y0 y1 y2 y3
     exact bodyPost_ret (v := .tuple #[noTok,errV 3 ((p : Int) + ((off : Nat) : Int))]) (by simp [results,Tryz.results73,go_sem,y0,y1,y2,y3,noTok,errV]) rfl ⟨rfl,_,hR⟩
    ·have hm00 : ((m : Int) == 0) = false := by rw [beq_eq_false_iff_ne];omega
     rw [hm00] at TX
     simp only [Bool.false_eq_true,if_false] at TX
     by_cases h40 : acc.length = 40
     ·obtain rfl : I = .bad 6 0 := by rw [TX.out,if_pos h40]
      clear TX
      have h40b : ((acc.length : Int) == 40) = true := by simp [h40]
      have H40 := Asd.mk h40
      clear h40
      go_wp2_with fail
      refine (XX.out _).mono ?_
      rintro e w5 ⟨rfl,hb5⟩
      have G5 := Asd.mk (And.intro (Rd.below (G.out.1.drewN _) hb5) (below_blk hb5 G.out.2))
      clear hb5 z0 z1 z2 z3 f0 f1 f2 f3 c0 c1
      go_wp2_with fail
      refine (failed_any 6 p _ rfl).mono ?_
      rintro e w6 ⟨rfl,hb6⟩
      have hz6 := below_blk hb6 (G5.out.2)
      have E6 := Asd.mk (And.intro (Rd.below (G5.out.1) hb6) hz6)
      have z0 : w6.cell? ⟨w.heap.size,0,none⟩ = some (.int .i64 0) := cell_of hz6 0
      have z1 : w6.cell? ⟨w.heap.size,1,none⟩ = some (.int .i64 0) := cell_of hz6 1
      have z2 : w6.cell? ⟨w.heap.size,2,none⟩ = some (.string ⟨#[]⟩) := cell_of hz6 2
      have z3 : w6.cell? ⟨w.heap.size,3,none⟩ = some (.int .i64 0) := cell_of hz6 3
      have f0 : w6.frozen? ⟨w.heap.size,0,none⟩ = false := free_of hz6 0
      have f1 : w6.frozen? ⟨w.heap.size,1,none⟩ = false := free_of hz6 1
      have f2 : w6.frozen? ⟨w.heap.size,2,none⟩ = false := free_of hz6 2
      have f3 : w6.frozen? ⟨w.heap.size,3,none⟩ = false := free_of hz6 3
      clear hz6 hb6
      unfold noTok errV
      go_wp2_with fail
      refine tok_ret E6.out.1 E6.out.2 rfl ?_
      intro Wf hR y0 y1 y2 y3
      exact bodyPost_ret (v := .tuple #[noTok,errV 6 ((p : Int) + ((0 : Nat) : Int))]) (by simp [results,Tryz.results73,go_sem,y0,y1,y2,y3,noTok,errV]) rfl ⟨rfl,_,hR⟩
     ·rw [if_neg h40] at TX
      have TX := Asd.mk (show textF gk (rest s (q + m)) (off + m) (acc ++ [UInt8.ofNat ec.toNat]) = I by rw [TX.out,rest_drop];rfl)
      have h40b : ((acc.length : Int) == 40) = false := by rw [beq_eq_false_iff_ne];omega
      obtain ⟨i0,hi,hz0,hz1,hz2⟩ := infoParts info_u8
      go_wp2_with fail
      refine (XX.out _).mono ?_
      rintro e w5 ⟨rfl,hb5⟩
      have own5 : w5.ownsRow W.heap.size 5 1 (.slice ao acc.length cap) acc.length (bcells acc) := own_below A.out.2.1 hb5
      have R5 := Asd.mk (Rd.below (A.out.1.drewN _) hb5)
      have HB := Asd.mk (bcells_snoc acc ec he0 he1)
      have hsz5 : W.heap.size ≤ (w5.alloc (.cells #[.int .u8 ec] 5)).heap.size := by have := R5.out.size;simp;omega
      clear hb5 z0 z1 z2 z3 f0 f1 f2 f3 c0 c1
      go_wp2_with (at_builtin;refine wpList_append_own _ rfl _ _ 97 rfl W.heap.size 5 i0 (.int .u8 0) 1 1 Tryz.underlying97 hi hz0 hz1 hz2 rfl (by decide) _ _ _ rfl (own5.alloc _) ⟨w5.heap.size,0,none⟩ 1 1 [.int .u8 ec] rfl rfl ?c1 ?c2 ?c3 ?c4 ?c5 ?_)
      case c1 => exact text_news ec
      case c2 => intro u hu;simp at hu;subst hu;rfl
      case c3 => unfold maxLen;omega
      case c4 => omega
      case c5 => exact hsz5
      intro v' w6 hown6 hgrow _
      have R6 := Asd.mk (Rd.grown (R5.out.alloc _) hgrow (fun k hk => (own5.lt k hk).1))
      clear own5 hgrow
      have O6 := Asd.mk hown6
      clear hown6
      have c1 := R6.out.c1
      have f1 := R6.out.f1
      have hsum : 0 ≤ (q : Int) + (m : Int) := by omega
      go_wp2_with fail
      go_roundg (gk - 1)
      case measure => omega
      case rel => exact ⟨q + m,off + m,acc ++ [UInt8.ofNat ec.toNat],by have := HQ.out;omega,by omega,by omega,R6.out.put _ _ (by omega),by
        have := own_setCell O6.out (a := ⟨b,1,none⟩) (show b < W.heap.size by have := HL.out;omega) (.int .i64 ((q : Int) + (m : Int)))
        rw [List.length_append,HB.out];exact this,by rw [List.length_append];simp;omega,by rw [show gk - 1 + 1 = gk by omega];exact TX.out⟩
  ·have hd : decide (q < s.size) = false := by simpa using hlt
   have hI : I = .bad 5 off := by
    rw [← A.out.2.2,rest_end s q (by omega),textF_nil]
   obtain rfl := hI
   have hqq : q = s.size := by omega
   have hqi : (q : Int) = (p : Int) + (off : Int) := by have := HQ.out;omega
   have HX := Asd.mk (And.intro hqq hqi)
   clear hqq hqi z0 z1 z2 z3 f0 f1 f2 f3
   go_wp2_with fail
   go_quiet (fail)
   rw [HX.out.2] at c1
   go_wp2_with fail
   refine (failed_any 5 ((p : Int) + (off : Int)) _ rfl).mono ?_
   rintro e w6 ⟨rfl,hb6⟩
   have hz6 := below_blk hb6 (G.out.2)
   have E6 := Asd.mk (And.intro (Rd.below ((G.out.1.drewN _)) hb6) hz6)
   have z0 : w6.cell? ⟨w.heap.size,0,none⟩ = some (.int .i64 0) := cell_of hz6 0
   have z1 : w6.cell? ⟨w.heap.size,1,none⟩ = some (.int .i64 0) := cell_of hz6 1
   have z2 : w6.cell? ⟨w.heap.size,2,none⟩ = some (.string ⟨#[]⟩) := cell_of hz6 2
   have z3 : w6.cell? ⟨w.heap.size,3,none⟩ = some (.int .i64 0) := cell_of hz6 3
   have f0 : w6.frozen? ⟨w.heap.size,0,none⟩ = false := free_of hz6 0
   have f1 : w6.frozen? ⟨w.heap.size,1,none⟩ = false := free_of hz6 1
   have f2 : w6.frozen? ⟨w.heap.size,2,none⟩ = false := free_of hz6 2
   have f3 : w6.frozen? ⟨w.heap.size,3,none⟩ = false := free_of hz6 3
   clear hz6 hb6
   unfold noTok errV
   go_wp2_with fail
   refine tok_ret E6.out.1 E6.out.2 rfl ?_
   intro Wf hR y0 y1 y2 y3
   exact bodyPost_ret (v := .tuple #[noTok,errV 5 ((p : Int) + ((off : Nat) : Int))]) (by simp [results,Tryz.results73,go_sem,y0,y1,y2,y3,noTok,errV]) rfl ⟨rfl,_,hR⟩
end Go.Proofs.YtkoabcncdjmoeaaGreatDoor
